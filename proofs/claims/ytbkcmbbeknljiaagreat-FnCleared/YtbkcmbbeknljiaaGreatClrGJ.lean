/- A row of records that are picked out of another row. -/
import Derived.Test.YtbkcmbbeknljiaaGreatRows
import Derived.Test.YtbkcmbbeknljiaaGreatJ30LawCleared
import Derived.WalkKit
import Derived.Below
import Derived.Maps.AppendAt
import Derived.Laws.OwnMore
import Derived.Deep.AppendLies
import Derived.Deep.Heap
namespace Go.Proofs.YtbkcmbbeknljiaaGreat
open Go.RowKit
theorem owns_mono {W : World} {base base' n sz : Nat} {v : Value} {T : TypeId} {xs : List Value} (h : W.ownsRow base T sz v n xs) (hb : base' ≤ base) : W.ownsRow base' T sz v n xs := by
  obtain ⟨h1, h2⟩ := h
  refine ⟨h1, h2.imp id ?_⟩
  rintro ⟨g, cap, cur, rfl, r1, r2⟩
  exact ⟨g, cap, cur, rfl, Nat.le_trans hb r1, r2⟩
theorem owns_slice {W : World} {base n sz : Nat} {v : Value} {T : TypeId} {xs : List Value} (h : W.ownsRow base T sz v n xs) : ∃ a c, v = .slice a n c := by
  rcases h.2 with ⟨rfl, rfl⟩ | ⟨q, cap, cur, rfl, _⟩
  · exact ⟨none, 0, rfl⟩
  · exact ⟨_, cap, rfl⟩
theorem flat_lenG {α : Type} {cells : α → List Value} {sz : Nat} (hl : ∀ s, (cells s).length = sz) (l : List α) : (l.flatMap cells).length = l.length * sz := by
  induction l with
  | nil => simp
  | cons y l ih => rw [List.flatMap_cons, List.length_append, ih, hl, List.length_cons, Nat.add_mul]; omega
/-- The cells of record i, its Sets where they are. -/
def pickC (rs : List R4) (gr caps : Nat → Nat) (i : Nat) : List Value := rc (atR rs i) (some ⟨gr i, 0, none⟩) (caps i)
def RowK (W : World) (B : Nat) (v : Value) (rs : List R4) (gr caps : Nat → Nat) (K : List Nat) : Prop := W.ownsRow B 41 4 v K.length (K.flatMap (pickC rs gr caps))
theorem RowK.lt {W : World} {B : Nat} {v : Value} {rs : List R4} {gr caps : Nat → Nat} {K : List Nat} (h : RowK W B v rs gr caps K) {q : Nat} (e : v.ownBlock = some q) : B ≤ q ∧ q < W.heap.size := World.ownsRow.lt h q e
theorem RowK.later {W W' : World} {B : Nat} {v : Value} {rs : List R4} {gr caps : Nat → Nat} {K : List Nat} (h : RowK W B v rs gr caps K) (hb : Below W.heap.size W W') : RowK W' B v rs gr caps K := owns_keep h (fun q e => hb.block q (owns_lt h e))
theorem RowK.made (W : World) (rs : List R4) (gr caps : Nat → Nat) : RowK (W.alloc (.cells #[] 41)) W.heap.size (.slice (some ⟨W.heap.size, 0, none⟩) 0 0) rs gr caps [] := World.ownsRow_made W #[] 0 (Nat.le_refl _) (Nat.zero_le _) rfl
theorem RowK.push {W : World} {B : Nat} {v : Value} {rs : List R4} {gr caps : Nat → Nat} {K : List Nat} (h : RowK W B v rs gr caps K) (i : Nat) (hm : K.length + 1 ≤ 1048576) (ty : TypeId) (e k : Nat) (src : At W e 0 (pickC rs gr caps i)) (hbase : B ≤ W.heap.size) :
    ∃ v' W', (Builtin.append_ #[25, 25] ty #[v, .slice (some ⟨e, 0, none⟩) 1 k]).run Tryz.prog W = .ok v' W' ∧ RowK W' B v' rs gr caps (K ++ [i]) ∧ W.grownBy W' v.ownBlock := by
  obtain ⟨i0, hi0, hz0, hz1, hz2⟩ := partsOf info_recs
  have hadd : ∀ (b o j : Nat), (⟨b, o, none⟩ : Addr).add j = ⟨b, o + j, none⟩ := fun b o j => by unfold Addr.add; split <;> simp_all
  obtain ⟨v', W', hrun, hown, hg, _, _⟩ := run_append_own_at (P := Tryz.prog) W B 25 ty 41 i0 _ 4 _ Tryz.underlying25 hi0 hz0 hz1 hz2 rfl (by omega)
    v K.length _ h ⟨e, 0, none⟩ 1 k (pickC rs gr caps i) rfl (fun j u hu => by rw [hadd]; exact src j u hu)
    (fun u hu => by simp only [pickC, rc, List.mem_cons, List.not_mem_nil, or_false] at hu; rcases hu with rfl | rfl | rfl | rfl <;> rfl) (by unfold maxLen; omega) (by omega) hbase
  refine ⟨v', W', hrun, ?_, hg⟩
  unfold RowK
  rw [List.flatMap_append, List.length_append]
  simpa using hown
theorem flatG_pick (rs : List R4) (gr caps : Nat → Nat) (K : List Nat) : flatG hdR lnR (K.map (atR rs)) (fun x => gr (K[x]?.getD 0)) (fun x => caps (K[x]?.getD 0)) = K.flatMap (pickC rs gr caps) := by
  apply List.ext_getElem?
  intro j
  have hj : j / 4 * 4 + j % 4 = j := by omega
  by_cases hl : j / 4 < K.length
  · have hK := List.getElem?_eq_getElem hl
    have hm : (K.map (atR rs))[j / 4]? = some (atR rs K[j / 4]) := by rw [List.getElem?_map, hK]; rfl
    rw [← hj, flatG_at (sz := 4) (fun r => rfl) hm (Nat.mod_lt _ (by decide)), cellsG_rc, hK, flat_at (f := pickC rs gr caps) (sz := 4) (fun _ _ => rfl) hK (Nat.mod_lt _ (by decide))]
    rfl
  · rw [List.getElem?_eq_none (by rw [flatG_len, List.length_map]; omega), List.getElem?_eq_none (by rw [flat_lenG (sz := 4) (fun _ => rfl)]; omega)]
/-- The elder row's records, where there are some. -/
theorem GrowG.look {w : World} {base cl : Nat} {al : Option Addr} {rs : List R4} {g : Nat → Nat} (h : GrowG 41 4 hdR lnR AtR w base (.slice al rs.length cl) rs g) : ∃ caps : Nat → Nat, (∀ i, i < rs.length → lnR (atR rs i) ≤ caps i) ∧ (∀ i, i < rs.length → ∃ b, al = some ⟨b, 0, none⟩ ∧ b < w.heap.size ∧ At w b (i * 4) (pickC rs g caps i)) := by
  by_cases e : rs = []
  · subst e
    exact ⟨fun _ => 0, fun i hi => by simp at hi, fun i hi => by simp at hi⟩
  · obtain ⟨b, cp, ev, -, h2, -, -, -⟩ := GrowG.own (hd := hdR) (sz := 4) (fun _ => rfl) h e
    injection ev with ea _ ec
    subst ea
    obtain ⟨caps, -, hrow, hcp, -⟩ := h.rows rfl
    exact ⟨caps, hcp, fun i hi => ⟨b, rfl, h2, hrow i hi⟩⟩
/-- The picked row stands by itself. -/
theorem RowK.grow {w W : World} {base B : Nat} {v vr : Value} {rs : List R4} {gr caps : Nat → Nat} {K : List Nat} (h : RowK W B v rs gr caps K) (ho : GrowG 41 4 hdR lnR AtR w base vr rs gr) (hk : ∀ i, i < rs.length → W.heap[gr i]? = w.heap[gr i]?) (hlt : ∀ i, i < rs.length → gr i < B) (hB : base ≤ B) (hsz : w.heap.size ≤ W.heap.size) (hcp : ∀ i, i < rs.length → lnR (atR rs i) ≤ caps i) (hKn : ∀ (x i : Nat), K[x]? = some i → i < rs.length) (hKd : K.Nodup) :
    GrowG 41 4 hdR lnR AtR W base v (K.map (atR rs)) (fun x => gr (K[x]?.getD 0)) := by
  have hkx : ∀ x r, (K.map (atR rs))[x]? = some r → ∃ i, K[x]? = some i ∧ r = atR rs i := fun x r e => by
    rw [List.getElem?_map] at e
    obtain ⟨i, hi, rfl⟩ := Option.map_eq_some_iff.1 e
    exact ⟨i, hi, rfl⟩
  have hkl : ∀ x, x < (K.map (atR rs)).length → ∃ i, K[x]? = some i ∧ i < rs.length := fun x hx => by
    have h1 := List.getElem?_eq_getElem (l := K) (i := x) (by simpa using hx)
    exact ⟨_, h1, hKn x _ h1⟩
  refine ⟨⟨fun x => caps (K[x]?.getD 0), ?_, fun x r e => ?_⟩, fun x hx => ?_, fun x hx => ?_, fun x hx => ?_, fun x r e => ?_, fun x y hx hy e => ?_⟩
  · rw [List.length_map, flatG_pick]
    exact owns_mono h hB
  · obtain ⟨i, hi, rfl⟩ := hkx x r e
    simp only [hi, Option.getD_some]
    exact hcp i (hKn x i hi)
  · obtain ⟨i, hi, hin⟩ := hkl x hx
    simp only [hi, Option.getD_some]
    exact ho.low i hin
  · obtain ⟨i, hi, hin⟩ := hkl x hx
    simp only [hi, Option.getD_some]
    exact Nat.lt_of_lt_of_le (ho.lt i hin) hsz
  · obtain ⟨i, hi, hin⟩ := hkl x hx
    simp only [hi, Option.getD_some]
    exact fun e => by have := (h.lt e).1; have := hlt i hin; omega
  · obtain ⟨i, hi, rfl⟩ := hkx x r e
    simp only [hi, Option.getD_some]
    have hin := hKn x i hi
    exact AtR.of_block _ _ _ _ (hk i hin) (ho.sub i _ (atR_of hin))
  · obtain ⟨i, hi, hin⟩ := hkl x hx
    obtain ⟨j, hj, hjn⟩ := hkl y hy
    simp only [hi, hj, Option.getD_some] at e
    have hij := ho.inj i j hin hjn e
    subst hij
    obtain ⟨a1, b1⟩ := List.getElem?_eq_some_iff.1 hi
    obtain ⟨a2, b2⟩ := List.getElem?_eq_some_iff.1 hj
    have hp := List.pairwise_iff_getElem.1 hKd
    rcases Nat.lt_trichotomy x y with hxy | hxy | hxy
    · exact absurd (b1.trans b2.symm) (hp x y a1 a2 hxy)
    · exact hxy
    · exact absurd (b2.trans b1.symm) (hp y x a2 a1 hxy)
/-- A machine under way with records picked out of its log. -/
theorem MR.picked {base p B : Nat} {X W : World} {vk vr vr' vd : Value} {ks : List K2} {rs : List R4} {zs : List Int} {gk gr caps : Nat → Nat} {K : List Nat} (h : MR base p X vk vr vd ks rs zs gk gr) (hb : Below X.heap.size X W) (hB : X.heap.size ≤ B) (hX : base ≤ X.heap.size) (hp : p < X.heap.size) (hr : RowK W B vr' rs gr caps K) (hcp : ∀ i, i < rs.length → lnR (atR rs i) ≤ caps i) (hKn : ∀ (x i : Nat), K[x]? = some i → i < rs.length) (hKd : K.Nodup) :
    MR base p W vk vr' vd ks (K.map (atR rs)) zs gk (fun x => gr (K[x]?.getD 0)) := by
  have hl := h.later hb
  have old : ∀ q, blocksG vr' (K.map (atR rs)) (fun x => gr (K[x]?.getD 0)) q → blocksG vr rs gr q ∨ B ≤ q := fun q hq => by
    rcases hq with hq | ⟨x, hx, hq⟩
    · exact .inr (hr.lt hq).1
    · have h1 := List.getElem?_eq_getElem (l := K) (i := x) (by simpa using hx)
      refine .inl (.inr ⟨K[x]'(by simpa using hx), hKn x _ h1, ?_⟩)
      simpa only [h1, Option.getD_some] using hq
  refine ⟨hl.gK, hr.grow h.gR (fun i hi => hb.block _ (h.gR.lt i hi)) (fun i hi => Nat.lt_of_lt_of_le (h.gR.lt i hi) hB) (Nat.le_trans hX hB) hb.size hcp hKn hKd, hl.gD, fun q hq hq' => ?_, h.kd, fun q hq e => ?_, h.kp, fun q hq => ?_, h.dp⟩
  · rcases old q hq' with ho | ho
    · exact h.kr q hq ho
    · have := (h.gK.blocks hq).2; omega
  · rcases old q hq with ho | ho
    · exact h.rd q ho e
    · have := owns_lt h.gD e; omega
  · rcases old q hq with ho | ho
    · exact h.rp q ho
    · omega
end Go.Proofs.YtbkcmbbeknljiaaGreat
