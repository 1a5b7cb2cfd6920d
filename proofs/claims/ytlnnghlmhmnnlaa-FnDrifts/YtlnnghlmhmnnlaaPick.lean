/- A number out of the code's bytes (the laws' pick), and the code behind one byte more. -/
import Derived.Test.YtlnnghlmhmnnlaaRows
import Derived.Test.YtlnnghlmhmnnlaaDraw1
import Derived.WalkKit
import Derived.WalkSpells
import Derived.WalkLawsBesides
import Derived.Below
import Derived.Deep.AppendLies
import Derived.Deep.AppendSrc
import Derived.Laws.OwnMore
namespace Go.Proofs.Ytlnnghlmhmnnlaa
open Go.RowKit
set_option maxHeartbeats 1000000 in
theorem pick_any (w : World) (a : Option Addr) (n k : Nat) (m : Int) (hb : Bytes w w.heap.size a n) (hn : n ≤ 5000) (hm : 0 < m) :
    Calls Try.prog 20 #[.slice a n k, .int .i64 m] w fun e w' => ∃ y : Int, e = .returned (.int .i64 y) ∧ 0 ≤ y ∧ y < m ∧ w' = w := by
  obtain ⟨hmx, hb⟩ := hb
  go_enter Try.func20, Try.ntmps20
  go_wp2
  go_loop [5, 6] (fun u i => ∃ (j : Nat) (h : Int), j ≤ n ∧ 0 ≤ h ∧ h ≤ 1000003 ∧ i = .int .i64 j ∧ u = .int .i64 h) (fun _ i => n - (intOf i).toNat)
  case atStart => exact ⟨0, _, Nat.zero_le _, Int.natCast_nonneg n, by omega, rfl, rfl⟩
  case round =>
    obtain ⟨j, h, hj, h0, h1, rfl, rfl⟩ := hrel
    by_cases hlt : j < n
    · rcases hb with hb | ⟨b, off, rfl, hbB, hx⟩
      · omega
      · obtain ⟨x, hx, hx0, hx1⟩ := hx j hlt
        go_wp2
        go_round
        case rel => exact ⟨j + 1, _, hlt, Int.emod_nonneg _ (by omega), Int.le_of_lt (Int.emod_lt_of_pos _ (by omega)), by go_num, rfl⟩
        case measure => simp [intOf]; omega
    · go_wp2
      go_ret
      exact ⟨_, rfl, Int.emod_nonneg _ (by omega), Int.emod_lt_of_pos _ hm, rfl⟩
theorem info_u8 : (Try.prog.info? 5).map (fun i => (i.zero, i.size, i.bytes)) = some (some (.int .u8 0), 1, 1) := by kernel_rfl
theorem some_cells {w : World} {b off n : Nat} (hx : ∀ i, i < n → ∃ x : Int, w.cell? ⟨b, off + i, none⟩ = some (.int .u8 x) ∧ 0 ≤ x ∧ x ≤ 255) :
    ∃ xs : List Int, xs.length = n ∧ (∀ x ∈ xs, 0 ≤ x ∧ x ≤ 255) ∧ ∀ i x, xs[i]? = some x → w.cell? ⟨b, off + i, none⟩ = some (.int .u8 x) := by
  induction n with
  | zero => exact ⟨[], rfl, fun x h => by simp at h, fun i x e => by simp at e⟩
  | succ n ih =>
    obtain ⟨xs, hl, hr, hc⟩ := ih fun i hi => hx i (by omega)
    obtain ⟨y, hy, hy0, hy1⟩ := hx n (by omega)
    refine ⟨xs ++ [y], by simp [hl], ?_, fun i x e => ?_⟩
    · intro x h
      rcases List.mem_append.1 h with h | h
      · exact hr x h
      · simp at h; subst h; exact ⟨hy0, hy1⟩
    · by_cases hi : i < xs.length
      · rw [List.getElem?_append_left hi] at e
        exact hc i x e
      · rw [List.getElem?_append_right (by omega)] at e
        have : i - xs.length = 0 := by
          rcases Nat.eq_zero_or_pos (i - xs.length) with h | h
          · exact h
          · rw [List.getElem?_eq_none (by simp; omega)] at e; cases e
        rw [this] at e
        simp at e
        subst e
        rw [show i = n by omega]
        exact hy
/-- What append of the code's bytes onto a new row of one byte does. -/
theorem code_append (w : World) (z : Int) (a : Option Addr) (n k : Nat) (t ty : TypeId) (hb : Bytes w w.heap.size a n) (hz : 0 ≤ z ∧ z ≤ 255) (hn : n ≤ 4096) :
    ∃ a' k' w', (Builtin.append_ #[22, 22] ty #[.slice (some ⟨w.heap.size, 0, none⟩) 1 1, .slice a n k]).run Try.prog (w.alloc (.cells #[.int .u8 z] t)) = .ok (.slice a' (1 + n) k') w' ∧ Bytes w' w'.heap.size a' (1 + n) ∧ Below w.heap.size w w' := by
  have bW : Below w.heap.size w (w.alloc (.cells #[.int .u8 z] t)) := (Below.refl _ _).alloc (Nat.le_refl _) _
  have hW : (w.alloc (.cells #[.int .u8 z] t)).cell? ⟨w.heap.size, 0, none⟩ = some (.int .u8 z) := by go_simp
  have zW : w.heap.size < (w.alloc (.cells #[.int .u8 z] t)).heap.size := by simp
  have hbW : Bytes (w.alloc (.cells #[.int .u8 z] t)) w.heap.size a n := hb.below bW
  generalize w.alloc (.cells #[.int .u8 z] t) = W at *
  obtain ⟨i0, hi0, hz0, hz1, hz2⟩ := info_parts info_u8
  obtain ⟨_, hx⟩ := hbW
  rcases Nat.eq_zero_or_pos n with rfl | hp
  · have hs : Src Try.prog i0.size 22 (.slice a 0 k) 0 [] W := by
      cases a with
      | none => exact Src.ofNil W Try.underlying22 k
      | some x => exact Src.ofSlice W Try.underlying22 x 0 k [] (by simp) (fun j u h => by simp at h) (fun u h => by simp at h)
    have h := run_append_room_src (P := Try.prog) W 22 22 ty 5 i0 Try.underlying22 hi0 w.heap.size 0 1 1 (.slice a 0 k) 0 [] hs (by omega) (fun j hj => by simp at hj) (fun j hj => by simp at hj)
    refine ⟨_, _, _, h, ⟨by unfold maxLen; omega, .inr ⟨w.heap.size, 0, rfl, zW, fun i hi => ?_⟩⟩, bW⟩
    obtain rfl : i = 0 := by omega
    exact ⟨z, hW, hz⟩
  · rcases hx with h0 | ⟨b, off, rfl, hbB, hx⟩
    · omega
    · obtain ⟨xs, hl, hr, hc⟩ := some_cells hx
      have hadd : ∀ (b o j : Nat), (⟨b, o, none⟩ : Addr).add j = ⟨b, o + j, none⟩ := fun b o j => by unfold Addr.add; split <;> simp_all
      obtain ⟨v', w', hrun, hown, hg⟩ := run_append_arg_grows (P := Try.prog) W 22 ty 5 i0 (.int .u8 0) 1 1 Try.underlying22 hi0 hz0 hz1 hz2 rfl (by decide)
        ⟨w.heap.size, 0, none⟩ 1 1 [.int .u8 z] rfl (fun j u h => by
          rcases Nat.eq_zero_or_pos j with rfl | hj
          · simp at h; subst h; rw [hadd]; exact hW
          · rw [List.getElem?_eq_none (by simp; omega)] at h; cases h)
        ⟨b, off, none⟩ n k (xs.map (Value.int .u8)) (by simp [hl]) (fun j u h => by
          rw [List.getElem?_map] at h
          cases hx : xs[j]? with
          | none => rw [hx] at h; cases h
          | some x => rw [hx] at h; simp at h; subst h; rw [hadd]; exact hc j x hx)
        (by omega) (by unfold maxLen; omega) (by omega)
      obtain ⟨g, cap, rfl, _, hlt⟩ := hown.form (by omega)
      refine ⟨_, _, _, hrun, ⟨by unfold maxLen; omega, .inr ⟨g, 0, rfl, hlt, fun i hi => ?_⟩⟩, bW.grown hg (by omega) (fun k h => by cases h)⟩
      have hcell := hown.cellAt i (by omega)
      rw [Nat.zero_add, hcell]
      rcases Nat.eq_zero_or_pos i with rfl | hi0
      · exact ⟨z, rfl, hz⟩
      · obtain ⟨j, rfl⟩ : ∃ j, i = j + 1 := ⟨i - 1, by omega⟩
        have hj : j < xs.length := by omega
        refine ⟨xs[j], by simp [hj], hr _ (List.getElem_mem hj)⟩
/-- An append whose run is known, met at its operation. -/
theorem append_known {P : Program} (w : World) {ops : Array Oper} {rest : List Oper} {o : Oper} {a : Act} {Q : Exit → Act → World → Prop} (hg : o.guard = none) (s x : Operand) (t : TypeId)
    (hop : o.op = Op.call { callee := Callee.builtin Builtin.append, args := #[s, x], argTypes := #[t, t] }) (v u v' : Value) (w' : World) (hs : a.eval s = v) (hx : a.eval x = u)
    (hr : (Builtin.append_ #[t, t] o.type #[v, u]).run P w = .ok v' w') (h : wpList P ops Q rest (a.put o.dst v') w') : wpList P ops Q (o :: rest) a w := by
  refine wpList_plain hg fun K hK => ?_
  unfold Oper.wp
  simp [execOp, hop, resolve, invoke, builtin, hs, hx, hr, Result.andThen]
  exact hK _ _ h
end Go.Proofs.Ytlnnghlmhmnnlaa
