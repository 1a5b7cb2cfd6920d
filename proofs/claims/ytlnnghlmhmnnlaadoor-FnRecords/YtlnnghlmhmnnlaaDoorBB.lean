/- Rows of bytes of a call's own: what they hold, what append and the conversions make of them. -/
import Derived.Test.YtlnnghlmhmnnlaaDoorRows
import Derived.Test.YtlnnghlmhmnnlaaDoorMem
import Derived.WalkKit
import Derived.WalkSpells
import Derived.WalkLawsBesides
import Derived.Below
import Derived.Maps.AppendAt
import Derived.Laws.OwnMore
import Derived.Laws.IdiomStrings
import Derived.Laws.BytesArg
import Derived.Lib.SlBytesConst
import Derived.Deep.AppendLies
namespace Go.Proofs.YtlnnghlmhmnnlaaDoor
open Go.RowKit
/-- Block g holds m bytes that can be written. -/
def BB (w : World) (g m : Nat) : Prop := ∀ i, i < m → ∃ x : Int, w.cell? ⟨g, i, none⟩ = some (.int .u8 x) ∧ 0 ≤ x ∧ x ≤ 255 ∧ w.frozen? ⟨g, i, none⟩ = false
theorem BB.of_block {w w' : World} {g m : Nat} (h : BB w g m) (e : w'.heap[g]? = w.heap[g]?) : BB w' g m := fun i hi => by
  obtain ⟨x, h1, h2, h3, h4⟩ := h i hi
  exact ⟨x, (World.cell?_of_block (a := ⟨g, i, none⟩) e).trans h1, h2, h3, (World.frozen?_of_block (a := ⟨g, i, none⟩) e).trans h4⟩
theorem BB.le {w : World} {g m m' : Nat} (h : BB w g m) (hm : m' ≤ m) : BB w g m' := fun i hi => h i (by omega)
theorem BB.set {w : World} {g m : Nat} (h : BB w g m) (o : Nat) (x : Int) (h0 : 0 ≤ x) (h1 : x ≤ 255) : BB (w.setCell ⟨g, o, none⟩ (.int .u8 x)) g m := fun i hi => by
  obtain ⟨y, k1, k2, k3, k4⟩ := h i hi
  by_cases e : i = o
  · subst e
    exact ⟨x, cell_set_same k1, h0, h1, by rw [World.frozen?_setCell]; exact k4⟩
  · exact ⟨y, by rw [cell_set_other e]; exact k1, k2, k3, by rw [World.frozen?_setCell]; exact k4⟩
/-- What '[]byte(s)' lays. -/
theorem bb_new (w : World) (s : List UInt8) (cap : Nat) (t : TypeId) :
    BB (w.alloc (.cells (bytesRow ⟨s.toArray⟩ cap) t ((bytesRow ⟨s.toArray⟩ cap).size, (bytesRow ⟨s.toArray⟩ cap).size + 1))) w.heap.size s.length := fun i hi => by
  have hs : (bytesRow ⟨s.toArray⟩ cap).size = s.length + (cap - s.length) := by simp [bytesRow, ByteArray.size]
  refine ⟨(s[i].toNat : Int), ?_, by omega, ?_, ?_⟩
  · rw [World.cell?_alloc_mark, bytesRow_at _ _ _ (by simpa using hi)]; simp
  · have := s[i].toNat_lt; omega
  · rw [World.frozen?_alloc_mark, hs]; simp; omega
theorem bytes_list {w : World} {b off n : Nat} (hx : ∀ i, i < n → ∃ x : Int, w.cell? ⟨b, off + i, none⟩ = some (.int .u8 x) ∧ 0 ≤ x ∧ x ≤ 255) :
    ∃ xs : List Int, xs.length = n ∧ (∀ x ∈ xs, 0 ≤ x ∧ x ≤ 255) ∧ ∀ i x, xs[i]? = some x → w.cell? ⟨b, off + i, none⟩ = some (.int .u8 x) := by
  induction n with
  | zero => exact ⟨[], rfl, fun x h => by simp at h, fun i x e => by simp at e⟩
  | succ n ih =>
    obtain ⟨xs, hl, hr, hc⟩ := ih fun i hi => hx i (by omega)
    obtain ⟨y, hy, hy0, hy1⟩ := hx n (by omega)
    refine ⟨xs ++ [y], by simp [hl], ?_, fun i x e => ?_⟩
    · intro x h
      rcases List.mem_append.1 h with h | h
      · exact hr x h
      · simp at h; subst h; exact ⟨hy0, hy1⟩
    · by_cases hi : i < xs.length
      · rw [List.getElem?_append_left hi] at e
        exact hc i x e
      · rw [List.getElem?_append_right (by omega)] at e
        have : i - xs.length = 0 := by
          rcases Nat.eq_zero_or_pos (i - xs.length) with h | h
          · exact h
          · rw [List.getElem?_eq_none (by simp; omega)] at e; cases e
        rw [this] at e
        simp at e
        subst e
        rw [show i = n by omega]
        exact hy
theorem BB.at {w : World} {g m : Nat} (h : BB w g m) (off n : Nat) (hn : off + n ≤ m) : ∀ i, i < n → ∃ x : Int, w.cell? ⟨g, off + i, none⟩ = some (.int .u8 x) ∧ 0 ≤ x ∧ x ≤ 255 := fun i hi => by
  obtain ⟨x, h1, h2, h3, _⟩ := h (off + i) (by omega)
  exact ⟨x, h1, h2, h3⟩
/-- A row of m bytes of the call's own, from block base on. -/
def OB (w : World) (base g m cap : Nat) : Prop := ∃ xs : List Int, (∀ x ∈ xs, 0 ≤ x ∧ x ≤ 255) ∧ w.ownsRow base 5 1 (.slice (some ⟨g, 0, none⟩) m cap) m (xs.map (Value.int .u8))
theorem OB.empty (w : World) : OB (w.alloc (.cells #[] 5)) w.heap.size w.heap.size 0 0 := ⟨[], fun x h => by simp at h, World.ownsRow_made w #[] 0 (Nat.le_refl _) (Nat.zero_le _) rfl⟩
theorem OB.alloc {w : World} {base g m cap : Nat} (h : OB w base g m cap) (o : Obj) : OB (w.alloc o) base g m cap := by
  obtain ⟨xs, h1, h2⟩ := h
  exact ⟨xs, h1, h2.alloc o⟩
theorem OB.out {w : World} {base g m cap : Nat} (h : OB w base g m cap) : BB w g m ∧ m ≤ cap ∧ cap ≤ maxLen ∧ base ≤ g ∧ g < w.heap.size := by
  obtain ⟨xs, h1, h2⟩ := h
  have hlen : xs.length = m := by simpa using h2.1
  have hlt := h2.lt g rfl
  refine ⟨fun i hi => ?_, ?_, ?_, hlt.1, hlt.2⟩
  · refine ⟨xs[i], ?_, (h1 _ (List.getElem_mem (by omega))).1, (h1 _ (List.getElem_mem (by omega))).2, h2.frozenAt i⟩
    rw [h2.cellAt i (by omega)]
    simp [show i < xs.length by omega]
  · rcases h2.2 with ⟨e, _⟩ | ⟨g', cap', cur, e, _, _, hc, _⟩
    · cases e
    · cases e; exact hc
  · rcases h2.2 with ⟨e, _⟩ | ⟨g', cap', cur, e, _, _, _, hc, _⟩
    · cases e
    · cases e; exact hc
theorem info_byte : (Tryd.prog.info? 5).map (fun i => (i.zero, i.size, i.bytes)) = some (some (.int .u8 0), 1, 1) := by kernel_rfl
theorem ob_append (W : World) (base g m cap b off n k : Nat) (ty : TypeId) (h : OB W base g m cap) (hx : ∀ i, i < n → ∃ x : Int, W.cell? ⟨b, off + i, none⟩ = some (.int .u8 x) ∧ 0 ≤ x ∧ x ≤ 255) (hm : m + n ≤ 100000) (hbase : base ≤ W.heap.size) :
    ∃ g' cap' W', (Builtin.append_ #[22, 22] ty #[.slice (some ⟨g, 0, none⟩) m cap, .slice (some ⟨b, off, none⟩) n k]).run Tryd.prog W = .ok (.slice (some ⟨g', 0, none⟩) (m + n) cap') W' ∧ OB W' base g' (m + n) cap' ∧ W.grownBy W' (some g) := by
  obtain ⟨xs, h1, h2⟩ := h
  obtain ⟨ys, hl, hr, hc⟩ := bytes_list hx
  obtain ⟨i0, hi0, hz0, hz1, hz2⟩ := info_parts info_byte
  have hadd : ∀ (b o j : Nat), (⟨b, o, none⟩ : Addr).add j = ⟨b, o + j, none⟩ := fun b o j => by unfold Addr.add; split <;> simp_all
  obtain ⟨v', w', hrun, hown, hg, hnil, _⟩ := run_append_own_at (P := Tryd.prog) W base 22 ty 5 i0 (.int .u8 0) 1 1 Tryd.underlying22 hi0 hz0 hz1 hz2 rfl (by decide)
    (.slice (some ⟨g, 0, none⟩) m cap) m _ h2 ⟨b, off, none⟩ n k (ys.map (Value.int .u8)) (by simp [hl]) (fun j u h => by
      rw [List.getElem?_map] at h
      cases hx : ys[j]? with
      | none => rw [hx] at h; cases h
      | some x => rw [hx] at h; simp at h; subst h; rw [hadd]; exact hc j x hx)
    (fun u hu => by obtain ⟨x, _, rfl⟩ := List.mem_map.1 hu; rfl) (by unfold maxLen; omega) (by omega) hbase
  rcases hown.2 with ⟨e, _⟩ | ⟨g', cap', cur, rfl, r⟩
  · have := (hnil.1 e).1
    cases this
  · refine ⟨g', cap', w', hrun, ⟨xs ++ ys, fun x hx => ?_, ?_⟩, hg⟩
    · rcases List.mem_append.1 hx with hx | hx
      · exact h1 x hx
      · exact hr x hx
    · rw [List.map_append]; exact hown
/-- An append whose run is known, met at a step of a region that draws its order. -/
theorem step_known {P : Program} (w : World) {ops : Array Oper} {o : Oper} {a : Act} {K : Act → World → Prop} {Q : Exit → Act → World → Prop} {E : Prop} (hgd : o.guard = none) (s x : Operand) (t : TypeId)
    (hop : o.op = Op.call { callee := Callee.builtin Builtin.append, args := #[s, x], argTypes := #[t, t] }) (v u v' : Value) (w' : World) (hs : a.eval s = v) (hx : a.eval x = u)
    (hr : (Builtin.append_ #[t, t] o.type #[v, u]).run P w = .ok v' w') (h : K (a.put o.dst v') w') :
    if Region.wanted o (yielded ops a.tmps) = true then Oper.wp P o a w K Q else E := by
  have hw : Region.wanted o (yielded ops a.tmps) = true := by simp [Region.wanted, hgd]
  rw [if_pos hw]
  unfold Oper.wp
  simp [execOp, hop, resolve, invoke, builtin, hs, hx, hr, Result.andThen]
  exact h
/-- 'string(b)'. -/
theorem bb_string {w : World} {g m cap : Nat} (h : BB w g m) : ∃ bs : List UInt8, bs.length = m ∧ (convert 22 9 (.slice (some ⟨g, 0, none⟩) m cap)).run Tryd.prog w = .ok (.string ⟨bs.toArray⟩) w := by
  obtain ⟨xs, hl, hr, hc⟩ := bytes_list (h.at 0 m (by omega))
  have := run_convert_bytes_arg (P := Tryd.prog) w 22 5 Tryd.underlying22 Tryd.underlying5 g 0 m cap xs hl (fun i hi => by
    rw [hc i xs[i] (by simp [show i < xs.length by omega])]; simp [show i < xs.length by omega]) 9 Tryd.underlying9
  exact ⟨_, by simp [hl], this⟩
end Go.Proofs.YtlnnghlmhmnnlaaDoor
