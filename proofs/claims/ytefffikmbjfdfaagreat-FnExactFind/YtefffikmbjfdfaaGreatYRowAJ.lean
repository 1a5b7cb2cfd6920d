/- Rows of a call's own that append makes longer: Sets, Notes, numbers. -/
import Derived.Test.YtefffikmbjfdfaaGreatRows
import Derived.Test.YtefffikmbjfdfaaGreatYNoAJ
import Derived.Test.YtefffikmbjfdfaaGreatYTxDJ
import Derived.WalkKit
import Derived.Below
import Derived.Maps.AppendAt
import Derived.Laws.OwnMore
import Derived.Deep.AppendLies
import Derived.Deep.Heap
namespace Go.Proofs.YtefffikmbjfdfaaGreat.tx
open Go.RowKit
theorem flat_len {α : Type} {cells : α → List Value} {sz : Nat} (hl : ∀ s, (cells s).length = sz) (l : List α) : (l.flatMap cells).length = l.length * sz := by
  induction l with
  | nil => simp
  | cons y l ih => rw [List.flatMap_cons, List.length_append, ih, hl, List.length_cons, Nat.add_mul]; omega
/-- append of elements that lie in memory onto a row of the call's own. -/
theorem pushX {α : Type} {cells : α → List Value} {T ST : TypeId} {sz by_ : Nat} (hl : ∀ s, (cells s).length = sz) (h1 : ∀ s, ∀ u ∈ cells s, u.oneCell' = true) (hsz : 0 < sz) {P : Program} {i0 : TypeInfo} {z : Value} (ht : P.underlying ST = some (.slice T)) (hi : P.info? T = some i0) (hz : i0.zero = some z) (hs : i0.size = sz) (hby : i0.bytes = by_) (hzs : z.cells.size = sz) (hbb : by_ ≤ 1000)
    {W : World} {base : Nat} {v : Value} {xs : List α} (h : W.ownsRow base T sz v xs.length (xs.flatMap cells)) (ys : List α) (hm : xs.length + ys.length ≤ 1048576) (ty : TypeId) (b off k : Nat) (src : ∀ i s, ys[i]? = some s → ∀ t u, (cells s)[t]? = some u → W.cell? ⟨b, off + i * sz + t, none⟩ = some u) (hbase : base ≤ W.heap.size) :
    ∃ v' W', (Builtin.append_ #[ST, ST] ty #[v, .slice (some ⟨b, off, none⟩) ys.length k]).run P W = .ok v' W' ∧ W'.ownsRow base T sz v' (xs ++ ys).length ((xs ++ ys).flatMap cells) ∧ W.grownBy W' v.ownBlock ∧ (v'.ownBlock = v.ownBlock ∨ v'.ownBlock = some W.heap.size) := by
  have hadd : ∀ (b o j : Nat), (⟨b, o, none⟩ : Addr).add j = ⟨b, o + j, none⟩ := fun b o j => by unfold Addr.add; split <;> simp_all
  obtain ⟨v', W', hrun, hown, hg, hnil, hlies⟩ := run_append_own_at (P := P) W base ST ty T i0 z sz by_ ht hi hz hs hby hzs hsz
    v xs.length _ h ⟨b, off, none⟩ ys.length k (ys.flatMap cells) (flat_len hl ys) (fun j u hu => by
      have hj : j < ys.length * sz := by rw [← flat_len hl]; exact (List.getElem?_eq_some_iff.1 hu).1
      have hi : j / sz < ys.length := Nat.div_lt_of_lt_mul (by rw [Nat.mul_comm]; exact hj)
      have hxs := List.getElem?_eq_getElem hi
      have hjt : j / sz * sz + j % sz = j := Nat.div_add_mod' j sz
      have := flat_at (f := cells) (l := ys) (fun x _ => hl x) hxs (Nat.mod_lt j hsz)
      rw [hjt] at this
      rw [hadd, ← hjt, ← Nat.add_assoc]
      exact src _ _ hxs _ u (by rw [← this]; exact hu))
    (fun u hu => by obtain ⟨s, _, hs⟩ := List.mem_flatMap.1 hu; exact h1 s u hs) (by unfold maxLen; omega) (by
      have : (xs.length + ys.length) * by_ ≤ 1048576 * 1000 := Nat.mul_le_mul hm hbb
      omega) hbase
  rw [← List.flatMap_append, ← List.length_append] at hown
  exact ⟨v', W', hrun, hown, hg, hlies⟩
theorem setOne : ∀ s : S5, ∀ u ∈ S5.cells s, u.oneCell' = true := fun s u hu => by
  simp only [S5.cells, List.mem_cons, List.not_mem_nil, or_false] at hu
  rcases hu with rfl | rfl | rfl | rfl | rfl <;> rfl
theorem noteOne : ∀ s : N5, ∀ u ∈ s.cells, u.oneCell' = true := fun s u hu => by
  simp only [N5.cells, List.mem_cons, List.not_mem_nil, or_false] at hu
  rcases hu with rfl | rfl | rfl | rfl | rfl <;> rfl
theorem SetAt.cellsAt {w : World} {b o : Nat} {s : S5} (h : SetAt w b o s) : ∀ t u, (S5.cells s)[t]? = some u → w.cell? ⟨b, o + t, none⟩ = some u := fun t u hu => by
  rcases t with _ | _ | _ | _ | _ | t
  · simp [S5.cells] at hu; subst hu; exact h.c0
  · simp [S5.cells] at hu; subst hu; exact h.c1
  · simp [S5.cells] at hu; subst hu; exact h.c2
  · simp [S5.cells] at hu; subst hu; exact h.c3
  · simp [S5.cells] at hu; subst hu; exact h.c4
  · simp [S5.cells] at hu
theorem NoteAt.cellsAt {w : World} {b o : Nat} {s : N5} (h : NoteAt w b o s) : ∀ t u, s.cells[t]? = some u → w.cell? ⟨b, o + t, none⟩ = some u := fun t u hu => by
  rcases t with _ | _ | _ | _ | _ | t
  · simp [N5.cells] at hu; subst hu; exact h.c0
  · simp [N5.cells] at hu; subst hu; exact h.c1
  · simp [N5.cells] at hu; subst hu; exact h.c2
  · simp [N5.cells] at hu; subst hu; exact h.c3
  · simp [N5.cells] at hu; subst hu; exact h.c4
  · simp [N5.cells] at hu
/-- A row of Sets (of Notes) that append makes. -/
def RowS (W : World) (base : Nat) (v : Value) (xs : List S5) : Prop := W.ownsRow base 74 5 v xs.length (xs.flatMap S5.cells)
def RowN (W : World) (base : Nat) (v : Value) (xs : List N5) : Prop := W.ownsRow base 72 5 v xs.length (xs.flatMap N5.cells)
theorem pushSe {W : World} {base : Nat} {v : Value} {xs : List S5} (h : RowS W base v xs) (ys : List S5) (hm : xs.length + ys.length ≤ 1048576) (ty : TypeId) (b off k : Nat) (src : SetsAt W b off ys) (hbase : base ≤ W.heap.size) :
    ∃ v' W', (Builtin.append_ #[38, 38] ty #[v, .slice (some ⟨b, off, none⟩) ys.length k]).run Tryz.prog W = .ok v' W' ∧ RowS W' base v' (xs ++ ys) ∧ W.grownBy W' v.ownBlock ∧ (v'.ownBlock = v.ownBlock ∨ v'.ownBlock = some W.heap.size) := by
  obtain ⟨i0, hi0, hz0, hz1, hz2⟩ := partsOf infoSet
  exact pushX (cells := S5.cells) (fun _ => rfl) setOne (by omega) Tryz.underlying38 hi0 hz0 hz1 hz2 rfl (by omega) h ys hm ty b off k (fun i s e t u hu => (src i s e).cellsAt t u hu) hbase
theorem pushNo {W : World} {base : Nat} {v : Value} {xs : List N5} (h : RowN W base v xs) (ys : List N5) (hm : xs.length + ys.length ≤ 1048576) (ty : TypeId) (b off k : Nat) (src : NotesAt W b off ys) (hbase : base ≤ W.heap.size) :
    ∃ v' W', (Builtin.append_ #[37, 37] ty #[v, .slice (some ⟨b, off, none⟩) ys.length k]).run Tryz.prog W = .ok v' W' ∧ RowN W' base v' (xs ++ ys) ∧ W.grownBy W' v.ownBlock ∧ (v'.ownBlock = v.ownBlock ∨ v'.ownBlock = some W.heap.size) := by
  obtain ⟨i0, hi0, hz0, hz1, hz2⟩ := partsOf infoNote
  exact pushX (cells := N5.cells) (fun _ => rfl) noteOne (by omega) Tryz.underlying37 hi0 hz0 hz1 hz2 rfl (by omega) h ys hm ty b off k (fun i s e t u hu => (src i s e).cellsAt t u hu) hbase
theorem RowS.nil (W : World) (base : Nat) : RowS W base (.slice none 0 0) [] := ⟨rfl, .inl ⟨rfl, rfl⟩⟩
theorem RowN.nil (W : World) (base : Nat) : RowN W base (.slice none 0 0) [] := ⟨rfl, .inl ⟨rfl, rfl⟩⟩
theorem RowS.lt {W : World} {base : Nat} {v : Value} {xs : List S5} (h : RowS W base v xs) {q : Nat} (e : v.ownBlock = some q) : base ≤ q ∧ q < W.heap.size := World.ownsRow.lt h q e
theorem RowN.lt {W : World} {base : Nat} {v : Value} {xs : List N5} (h : RowN W base v xs) {q : Nat} (e : v.ownBlock = some q) : base ≤ q ∧ q < W.heap.size := World.ownsRow.lt h q e
theorem row_keep {W W' : World} {base : Nat} {v : Value} {T : TypeId} {sz n : Nat} {vs : List Value} (h : W.ownsRow base T sz v n vs) (hk : ∀ q, v.ownBlock = some q → W'.heap[q]? = W.heap[q]?) : W'.ownsRow base T sz v n vs := by
  refine ⟨h.1, h.2.imp id ?_⟩
  rintro ⟨q, cap, cur, rfl, l, hg, r⟩
  exact ⟨q, cap, cur, rfl, l, (hk q rfl).trans hg, r⟩
theorem RowS.keep {W W' : World} {base : Nat} {v : Value} {xs : List S5} (h : RowS W base v xs) (hk : ∀ q, base ≤ q → q < W.heap.size → v.ownBlock = some q → W'.heap[q]? = W.heap[q]?) : RowS W' base v xs := row_keep h (fun q e => hk q (h.lt e).1 (h.lt e).2 e)
theorem RowN.keep {W W' : World} {base : Nat} {v : Value} {xs : List N5} (h : RowN W base v xs) (hk : ∀ q, base ≤ q → q < W.heap.size → v.ownBlock = some q → W'.heap[q]? = W.heap[q]?) : RowN W' base v xs := row_keep h (fun q e => hk q (h.lt e).1 (h.lt e).2 e)
theorem RowS.later {W W' : World} {base : Nat} {v : Value} {xs : List S5} (h : RowS W base v xs) (hb : Below W.heap.size W W') : RowS W' base v xs := h.keep (fun q _ hq _ => hb.block q hq)
theorem RowN.later {W W' : World} {base : Nat} {v : Value} {xs : List N5} (h : RowN W base v xs) (hb : Below W.heap.size W W') : RowN W' base v xs := h.keep (fun q _ hq _ => hb.block q hq)
/-- Its value is a slice, and what lies in it. -/
theorem RowS.form {W : World} {base : Nat} {v : Value} {xs : List S5} (h : RowS W base v xs) : ∃ a c, v = .slice a xs.length c ∧ OwnSe W (fun q => v.ownBlock = some q) a xs := by
  rcases h.2 with ⟨rfl, h0⟩ | ⟨q, cap, cur, rfl, hb, hg, hl, _⟩
  · exact ⟨none, 0, by rw [h0], .inl (List.eq_nil_of_length_eq_zero h0)⟩
  · refine ⟨some ⟨q, 0, none⟩, cap, rfl, .inr ⟨q, rfl, rfl, (World.ownsRow.lt h q rfl).2, own_sets h, own_room h⟩⟩
theorem RowN.form {W : World} {base : Nat} {v : Value} {xs : List N5} (h : RowN W base v xs) : ∃ a c, v = .slice a xs.length c ∧ OwnNo W (fun q => v.ownBlock = some q) a xs := by
  rcases h.2 with ⟨rfl, h0⟩ | ⟨q, cap, cur, rfl, hb, hg, hl, _⟩
  · exact ⟨none, 0, by rw [h0], .inl (List.eq_nil_of_length_eq_zero h0)⟩
  · refine ⟨some ⟨q, 0, none⟩, cap, rfl, .inr ⟨q, rfl, rfl, (World.ownsRow.lt h q rfl).2, own_notes h, own_roomNo h⟩⟩
theorem RowS.made (W : World) : RowS (W.alloc (.cells #[] 74)) W.heap.size (.slice (some ⟨W.heap.size, 0, none⟩) 0 0) [] := World.ownsRow_made W #[] 0 (Nat.le_refl _) (Nat.zero_le _) rfl
theorem RowN.made (W : World) : RowN (W.alloc (.cells #[] 72)) W.heap.size (.slice (some ⟨W.heap.size, 0, none⟩) 0 0) [] := World.ownsRow_made W #[] 0 (Nat.le_refl _) (Nat.zero_le _) rfl
theorem SetAt.box (W : World) (s : S5) (T : TypeId) : SetAt (W.alloc (.cells #[.int .i64 s.region, .int .i64 s.slot, .int .i64 s.value, .bool s.used, .int .i64 s.version] T)) W.heap.size 0 s := ⟨by go_simp, by go_simp, by go_simp, by go_simp, by go_simp⟩
theorem NoteAt.box (W : World) (s : N5) (T : TypeId) : NoteAt (W.alloc (.cells #[.int .i64 s.region, .int .i64 s.slot, .int .i64 s.version, .int .i64 s.value, .bool s.used] T)) W.heap.size 0 s := ⟨by go_simp, by go_simp, by go_simp, by go_simp, by go_simp⟩
theorem SetAt.one {W : World} {b o : Nat} {s : S5} (h : SetAt W b o s) : SetsAt W b o [s] := fun i x e => by
  rcases i with _ | i
  · simp at e; subst e; simpa using h
  · simp at e
theorem NoteAt.one {W : World} {b o : Nat} {s : N5} (h : NoteAt W b o s) : NotesAt W b o [s] := fun i x e => by
  rcases i with _ | i
  · simp at e; subst e; simpa using h
  · simp at e
end Go.Proofs.YtefffikmbjfdfaaGreat.tx
