/- YNoA; YRowA: joined. -/
import Derived.Test.YtalmflikdnflfaaGreatRows
import Derived.Test.YtalmflikdnflfaaGreatYNoDJ
import Derived.WalkKit
import Derived.Below
import Derived.Maps.AppendAt
import Derived.Laws.OwnMore
import Derived.Deep.AppendLies
import Derived.Deep.Heap
import Derived.Test.YtalmflikdnflfaaGreatYTxDJ
/- Rows of Sets and of Notes that append makes. (Made by wip/tools/note.py out of OwnC, OwnSets: not to be imported beside them.) -/
namespace Go.Proofs.YtalmflikdnflfaaGreat.tx
open Go.RowKit
def S5.cells (s : S5) : List Value := [.int .i64 s.region, .int .i64 s.slot, .int .i64 s.value, .bool s.used, .int .i64 s.version]
def N5.cells (s : N5) : List Value := [.int .i64 s.region, .int .i64 s.slot, .int .i64 s.version, .int .i64 s.value, .bool s.used]
theorem partsOf {P : Program} {t : TypeId} {z : Value} {s b : Nat} (h : (P.info? t).map (fun i => (i.zero, i.size, i.bytes)) = some (some z, s, b)) : ∃ i, P.info? t = some i ∧ i.zero = some z ∧ i.size = s ∧ i.bytes = b := by
  obtain ⟨i, hi, hzz⟩ := Option.map_eq_some_iff.1 h
  simp only [Prod.mk.injEq] at hzz
  exact ⟨i, hi, hzz.1, hzz.2.1, hzz.2.2⟩
theorem flat_at {β : Type} {f : β → List Value} {sz : Nat} : ∀ {l : List β} (_ : ∀ x ∈ l, (f x).length = sz) {i t : Nat} {x : β}, l[i]? = some x → t < sz → (l.flatMap f)[i * sz + t]? = (f x)[t]?
  | [], _, i, t, x, h, _ => by simp at h
  | y :: l, hf, 0, t, x, h, ht => by
    simp at h
    subst h
    rw [List.flatMap_cons, List.getElem?_append_left (by rw [hf y (by simp)]; omega)]
    simp
  | y :: l, hf, i + 1, t, x, h, ht => by
    have hl := hf y (by simp)
    rw [List.flatMap_cons, List.getElem?_append_right (by rw [hl, Nat.add_mul]; omega), hl, show (i + 1) * sz + t - sz = i * sz + t by rw [Nat.add_mul]; omega]
    exact flat_at (fun x hx => hf x (by simp [hx])) (by simpa using h) ht
/-- append of elements onto none. -/
theorem appendX {α : Type} {cells : α → List Value} {T ST : TypeId} {sz by_ : Nat} (hl : ∀ s, (cells s).length = sz) (h1 : ∀ s, ∀ u ∈ cells s, u.oneCell' = true) (hsz : 0 < sz) {P : Program} {i0 : TypeInfo} {z : Value} (ht : P.underlying ST = some (.slice T)) (hi : P.info? T = some i0) (hz : i0.zero = some z) (hs : i0.size = sz) (hby : i0.bytes = by_) (hzs : z.cells.size = sz) (hbb : by_ ≤ 1000)
    {W : World} {base : Nat} {v : Value} (h : W.ownsRow base T sz v 0 []) (xs : List α) (hx : 0 < xs.length) (hm : xs.length ≤ 1048576) (ty : TypeId) (b off k : Nat) (src : ∀ i s, xs[i]? = some s → ∀ t u, (cells s)[t]? = some u → W.cell? ⟨b, off + i * sz + t, none⟩ = some u) (hbase : base ≤ W.heap.size) :
    ∃ q cap W', (Builtin.append_ #[ST, ST] ty #[v, .slice (some ⟨b, off, none⟩) xs.length k]).run P W = .ok (.slice (some ⟨q, 0, none⟩) xs.length cap) W' ∧ base ≤ q ∧ q < W'.heap.size ∧ xs.length ≤ cap ∧ (∀ i s, xs[i]? = some s → ∀ t u, (cells s)[t]? = some u → W'.cell? ⟨q, i * sz + t, none⟩ = some u) ∧ Room W' q (xs.length * sz) ∧ W.grownBy W' v.ownBlock ∧ (v.ownBlock = some q ∨ q = W.heap.size) ∧ W'.ownsRow base T sz (.slice (some ⟨q, 0, none⟩) xs.length cap) xs.length (xs.flatMap cells) := by
  have hadd : ∀ (b o j : Nat), (⟨b, o, none⟩ : Addr).add j = ⟨b, o + j, none⟩ := fun b o j => by unfold Addr.add; split <;> simp_all
  have hfl : ∀ l : List α, (l.flatMap cells).length = l.length * sz := fun l => by
    induction l with
    | nil => simp
    | cons y l ih => rw [List.flatMap_cons, List.length_append, ih, hl, List.length_cons, Nat.add_mul]; omega
  obtain ⟨v', W', hrun, hown, hg, hnil, hlies⟩ := run_append_own_at (P := P) W base ST ty T i0 z sz by_ ht hi hz hs hby hzs hsz
    v 0 [] h ⟨b, off, none⟩ xs.length k (xs.flatMap cells) (hfl xs) (fun j u hu => by
      have hj : j < xs.length * sz := by rw [← hfl]; exact (List.getElem?_eq_some_iff.1 hu).1
      have hi : j / sz < xs.length := Nat.div_lt_of_lt_mul (by rw [Nat.mul_comm]; exact hj)
      have hxs := List.getElem?_eq_getElem hi
      have hjt : j / sz * sz + j % sz = j := Nat.div_add_mod' j sz
      have := flat_at (f := cells) (l := xs) (fun x _ => hl x) hxs (Nat.mod_lt j hsz)
      rw [hjt] at this
      rw [hadd, ← hjt, ← Nat.add_assoc]
      exact src _ _ hxs _ u (by rw [← this]; exact hu))
    (fun u hu => by obtain ⟨s, _, hs⟩ := List.mem_flatMap.1 hu; exact h1 s u hs) (by unfold maxLen; omega) (by
      have : (0 + xs.length) * by_ ≤ 1048576 * 1000 := Nat.mul_le_mul (by omega) hbb
      omega) hbase
  rw [Nat.zero_add, List.nil_append] at hown
  have hcap : ∃ q cap, v' = .slice (some ⟨q, 0, none⟩) xs.length cap ∧ xs.length ≤ cap := by
    rcases hown.2 with ⟨_, h0⟩ | ⟨q, cap, cur, rfl, _, _, hl, _⟩
    · omega
    · exact ⟨q, cap, rfl, hl⟩
  obtain ⟨q, cap, rfl, hc⟩ := hcap
  have hb := World.ownsRow.lt hown q rfl
  refine ⟨q, cap, W', hrun, hb.1, hb.2, hc, fun i s e t u hu => ?_, fun j hj => ?_, hg, ?_, hown⟩
  · have hi := (List.getElem?_eq_some_iff.1 e).1
    have ht := (List.getElem?_eq_some_iff.1 hu).1
    rw [hl] at ht
    have : (i + 1) * sz ≤ xs.length * sz := Nat.mul_le_mul_right sz hi
    rw [Nat.add_mul] at this
    rw [World.ownsRow.cellAt hown _ (by omega), flat_at (fun x _ => hl x) e ht]; exact hu
  · exact ⟨_, by rw [World.ownsRow.cellAt hown j hj]; exact List.getElem?_eq_getElem (by rw [hfl]; exact hj), World.ownsRow.frozenAt hown j⟩
  · rcases hlies with e | e
    · exact .inl e.symm
    · exact .inr (Option.some.inj e)
theorem flat5 : ∀ (xs : List S5) (i : Nat) (s : S5) (j : Nat), xs[i]? = some s → j < 5 → (xs.flatMap S5.cells)[i * 5 + j]? = (S5.cells s)[j]?
  | [], i, s, j, h, _ => by simp at h
  | x :: xs, 0, s, j, h, hj => by
    simp at h
    subst h
    rw [List.flatMap_cons, List.getElem?_append_left (by simp [S5.cells]; omega)]
    simp
  | x :: xs, i + 1, s, j, h, hj => by
    have hl : (S5.cells x).length = 5 := rfl
    rw [List.flatMap_cons, List.getElem?_append_right (by rw [hl]; omega), hl, show (i + 1) * 5 + j - 5 = i * 5 + j by omega]
    exact flat5 xs i s j (by simpa using h) hj
theorem own_sets {w : World} {B : Nat} {t : TypeId} {g n cap : Nat} {xs : List S5} (h : w.ownsRow B t 5 (.slice (some ⟨g, 0, none⟩) n cap) n (xs.flatMap S5.cells)) : SetsAt w g 0 xs := by
  have key : ∀ (j : Nat) (u : Value), (xs.flatMap S5.cells)[j]? = some u → w.cell? ⟨g, j, none⟩ = some u := by
    intro j u e
    rcases h.2 with ⟨h0, _⟩ | ⟨g', cap', cur, hv, _, hg, _, _, _, ht⟩
    · cases h0
    · cases hv
      rw [cell_of_row w g j cur t (0, 0) hg]
      rw [← ht, List.getElem?_take] at e
      split at e
      · simpa using e
      · cases e
  intro i s e
  have f := fun j hj => flat5 xs i s j e hj
  rw [Nat.zero_add]
  exact ⟨key _ _ (by simpa [S5.cells] using f 0 (by omega)), key _ _ (by simpa [S5.cells] using f 1 (by omega)), key _ _ (by simpa [S5.cells] using f 2 (by omega)), key _ _ (by simpa [S5.cells] using f 3 (by omega)), key _ _ (by simpa [S5.cells] using f 4 (by omega))⟩
theorem own_room {w : World} {B : Nat} {t : TypeId} {g n cap : Nat} {vs : List Value} (h : w.ownsRow B t 5 (.slice (some ⟨g, 0, none⟩) n cap) n vs) : Room w g (n * 5) := by
  intro j hj
  rcases h.2 with ⟨h0, _⟩ | ⟨g', cap', cur, hv, _, hg, hn, _, hc, ht⟩
  · cases h0
  · cases hv
    have hlt : j < cur.size := by
      have : n * 5 ≤ cap * 5 := Nat.mul_le_mul_right 5 hn
      omega
    refine ⟨cur[j], ?_, ?_⟩
    · rw [cell_of_row w g j cur t (0, 0) hg, Array.getElem?_eq_getElem hlt]
    · simp [World.frozen?, hg]
theorem own_sl {w : World} {B : Nat} {t : TypeId} {a : Option Addr} {n cap : Nat} {xs : List S5} (h : w.ownsRow B t 5 (.slice a n cap) n (xs.flatMap S5.cells)) : n = 0 ∨ ∃ b, a = some ⟨b, 0, none⟩ ∧ B ≤ b ∧ b < w.heap.size ∧ SetsAt w b 0 xs ∧ Room w b (n * 5) := by
  rcases h.2 with ⟨_, h0⟩ | ⟨g, cap', cur, hv, _⟩
  · exact .inl h0
  · obtain ⟨rfl, _, _⟩ : a = some ⟨g, 0, none⟩ ∧ True ∧ True := by cases hv; exact ⟨rfl, trivial, trivial⟩
    exact .inr ⟨g, rfl, (h.lt g rfl).1, (h.lt g rfl).2, own_sets h, own_room h⟩
theorem infoSet : (Tryz.prog.info? 74).map (fun i => (i.zero, i.size, i.bytes)) = some (some (.agg #[.int .i64 0, .int .i64 0, .int .i64 0, .bool false, .int .i64 0]), 5, 40) := by kernel_rfl
theorem appendS (W : World) (base : Nat) (v : Value) (h : W.ownsRow base 74 5 v 0 []) (xs : List S5) (hx : 0 < xs.length) (hm : xs.length ≤ 1048576) (ty : TypeId) (b off k : Nat) (src : SetsAt W b off xs) (hbase : base ≤ W.heap.size) :
    ∃ q cap W', (Builtin.append_ #[38, 38] ty #[v, .slice (some ⟨b, off, none⟩) xs.length k]).run Tryz.prog W = .ok (.slice (some ⟨q, 0, none⟩) xs.length cap) W' ∧ base ≤ q ∧ q < W'.heap.size ∧ xs.length ≤ cap ∧ SetsAt W' q 0 xs ∧ Room W' q (xs.length * 5) ∧ W.grownBy W' v.ownBlock ∧ (v.ownBlock = some q ∨ q = W.heap.size) := by
  obtain ⟨i0, hi0, hz0, hz1, hz2⟩ := partsOf infoSet
  obtain ⟨q, cap, W', h1, h2, h3, h4, h5, h6, h7, h8, _⟩ := appendX (cells := S5.cells) (fun _ => rfl) (fun s u hu => by
    simp only [S5.cells, List.mem_cons, List.not_mem_nil, or_false] at hu
    rcases hu with rfl | rfl | rfl | rfl | rfl <;> rfl) (by omega) Tryz.underlying38 hi0 hz0 hz1 hz2 rfl (by omega) h xs hx hm ty b off k (fun i s e t u hu => by
      obtain ⟨c0, c1, c2, c3, c4⟩ := src i s e
      rcases t with _ | _ | _ | _ | _ | t
      · simp [S5.cells] at hu; subst hu; exact c0
      · simp [S5.cells] at hu; subst hu; exact c1
      · simp [S5.cells] at hu; subst hu; exact c2
      · simp [S5.cells] at hu; subst hu; exact c3
      · simp [S5.cells] at hu; subst hu; exact c4
      · simp [S5.cells] at hu) hbase
  refine ⟨q, cap, W', h1, h2, h3, h4, fun i s e => ⟨?_, ?_, ?_, ?_, ?_⟩, h6, h7, h8⟩
  · rw [Nat.zero_add]; exact h5 i s e 0 _ rfl
  · rw [Nat.zero_add]; exact h5 i s e 1 _ rfl
  · rw [Nat.zero_add]; exact h5 i s e 2 _ rfl
  · rw [Nat.zero_add]; exact h5 i s e 3 _ rfl
  · rw [Nat.zero_add]; exact h5 i s e 4 _ rfl
theorem flatNo : ∀ (xs : List N5) (i : Nat) (s : N5) (j : Nat), xs[i]? = some s → j < 5 → (xs.flatMap N5.cells)[i * 5 + j]? = s.cells[j]?
  | [], i, s, j, h, _ => by simp at h
  | x :: xs, 0, s, j, h, hj => by
    simp at h
    subst h
    rw [List.flatMap_cons, List.getElem?_append_left (by simp [N5.cells]; omega)]
    simp
  | x :: xs, i + 1, s, j, h, hj => by
    have hl : x.cells.length = 5 := rfl
    rw [List.flatMap_cons, List.getElem?_append_right (by rw [hl]; omega), hl, show (i + 1) * 5 + j - 5 = i * 5 + j by omega]
    exact flatNo xs i s j (by simpa using h) hj
theorem own_notes {w : World} {B : Nat} {t : TypeId} {g n cap : Nat} {xs : List N5} (h : w.ownsRow B t 5 (.slice (some ⟨g, 0, none⟩) n cap) n (xs.flatMap N5.cells)) : NotesAt w g 0 xs := by
  have key : ∀ (j : Nat) (u : Value), (xs.flatMap N5.cells)[j]? = some u → w.cell? ⟨g, j, none⟩ = some u := by
    intro j u e
    rcases h.2 with ⟨h0, _⟩ | ⟨g', cap', cur, hv, _, hg, _, _, _, ht⟩
    · cases h0
    · cases hv
      rw [cell_of_row w g j cur t (0, 0) hg]
      rw [← ht, List.getElem?_take] at e
      split at e
      · simpa using e
      · cases e
  intro i s e
  have f := fun j hj => flatNo xs i s j e hj
  rw [Nat.zero_add]
  exact ⟨key _ _ (by simpa [N5.cells] using f 0 (by omega)), key _ _ (by simpa [N5.cells] using f 1 (by omega)), key _ _ (by simpa [N5.cells] using f 2 (by omega)), key _ _ (by simpa [N5.cells] using f 3 (by omega)), key _ _ (by simpa [N5.cells] using f 4 (by omega))⟩
theorem own_roomNo {w : World} {B : Nat} {t : TypeId} {g n cap : Nat} {vs : List Value} (h : w.ownsRow B t 5 (.slice (some ⟨g, 0, none⟩) n cap) n vs) : Room w g (n * 5) := by
  intro j hj
  rcases h.2 with ⟨h0, _⟩ | ⟨g', cap', cur, hv, _, hg, hn, _, hc, ht⟩
  · cases h0
  · cases hv
    have hlt : j < cur.size := by
      have : n * 5 ≤ cap * 5 := Nat.mul_le_mul_right 5 hn
      omega
    refine ⟨cur[j], ?_, ?_⟩
    · rw [cell_of_row w g j cur t (0, 0) hg, Array.getElem?_eq_getElem hlt]
    · simp [World.frozen?, hg]
theorem own_slNo {w : World} {B : Nat} {t : TypeId} {a : Option Addr} {n cap : Nat} {xs : List N5} (h : w.ownsRow B t 5 (.slice a n cap) n (xs.flatMap N5.cells)) : n = 0 ∨ ∃ b, a = some ⟨b, 0, none⟩ ∧ B ≤ b ∧ b < w.heap.size ∧ NotesAt w b 0 xs ∧ Room w b (n * 5) := by
  rcases h.2 with ⟨_, h0⟩ | ⟨g, cap', cur, hv, _⟩
  · exact .inl h0
  · obtain ⟨rfl, _, _⟩ : a = some ⟨g, 0, none⟩ ∧ True ∧ True := by cases hv; exact ⟨rfl, trivial, trivial⟩
    exact .inr ⟨g, rfl, (h.lt g rfl).1, (h.lt g rfl).2, own_notes h, own_roomNo h⟩
theorem infoNote : (Tryz.prog.info? 72).map (fun i => (i.zero, i.size, i.bytes)) = some (some (.agg #[.int .i64 0, .int .i64 0, .int .i64 0, .int .i64 0, .bool false]), 5, 40) := by kernel_rfl
theorem appendNo (W : World) (base : Nat) (v : Value) (h : W.ownsRow base 72 5 v 0 []) (xs : List N5) (hx : 0 < xs.length) (hm : xs.length ≤ 1048576) (ty : TypeId) (b off k : Nat) (src : NotesAt W b off xs) (hbase : base ≤ W.heap.size) :
    ∃ q cap W', (Builtin.append_ #[37, 37] ty #[v, .slice (some ⟨b, off, none⟩) xs.length k]).run Tryz.prog W = .ok (.slice (some ⟨q, 0, none⟩) xs.length cap) W' ∧ base ≤ q ∧ q < W'.heap.size ∧ xs.length ≤ cap ∧ NotesAt W' q 0 xs ∧ Room W' q (xs.length * 5) ∧ W.grownBy W' v.ownBlock ∧ (v.ownBlock = some q ∨ q = W.heap.size) := by
  obtain ⟨i0, hi0, hz0, hz1, hz2⟩ := partsOf infoNote
  obtain ⟨q, cap, W', h1, h2, h3, h4, h5, h6, h7, h8, _⟩ := appendX (cells := N5.cells) (fun _ => rfl) (fun s u hu => by
    simp only [N5.cells, List.mem_cons, List.not_mem_nil, or_false] at hu
    rcases hu with rfl | rfl | rfl | rfl | rfl <;> rfl) (by omega) Tryz.underlying37 hi0 hz0 hz1 hz2 rfl (by omega) h xs hx hm ty b off k (fun i s e t u hu => by
      obtain ⟨c0, c1, c2, c3, c4⟩ := src i s e
      rcases t with _ | _ | _ | _ | _ | t
      · simp [N5.cells] at hu; subst hu; exact c0
      · simp [N5.cells] at hu; subst hu; exact c1
      · simp [N5.cells] at hu; subst hu; exact c2
      · simp [N5.cells] at hu; subst hu; exact c3
      · simp [N5.cells] at hu; subst hu; exact c4
      · simp [N5.cells] at hu) hbase
  refine ⟨q, cap, W', h1, h2, h3, h4, fun i s e => ⟨?_, ?_, ?_, ?_, ?_⟩, h6, h7, h8⟩
  · rw [Nat.zero_add]; exact h5 i s e 0 _ rfl
  · rw [Nat.zero_add]; exact h5 i s e 1 _ rfl
  · rw [Nat.zero_add]; exact h5 i s e 2 _ rfl
  · rw [Nat.zero_add]; exact h5 i s e 3 _ rfl
  · rw [Nat.zero_add]; exact h5 i s e 4 _ rfl
end Go.Proofs.YtalmflikdnflfaaGreat.tx
/- Rows of a call's own that append makes longer: Sets, Notes, numbers. -/
namespace Go.Proofs.YtalmflikdnflfaaGreat.tx
open Go.RowKit
theorem flat_len {α : Type} {cells : α → List Value} {sz : Nat} (hl : ∀ s, (cells s).length = sz) (l : List α) : (l.flatMap cells).length = l.length * sz := by
  induction l with
  | nil => simp
  | cons y l ih => rw [List.flatMap_cons, List.length_append, ih, hl, List.length_cons, Nat.add_mul]; omega
/-- append of elements that lie in memory onto a row of the call's own. -/
theorem pushX {α : Type} {cells : α → List Value} {T ST : TypeId} {sz by_ : Nat} (hl : ∀ s, (cells s).length = sz) (h1 : ∀ s, ∀ u ∈ cells s, u.oneCell' = true) (hsz : 0 < sz) {P : Program} {i0 : TypeInfo} {z : Value} (ht : P.underlying ST = some (.slice T)) (hi : P.info? T = some i0) (hz : i0.zero = some z) (hs : i0.size = sz) (hby : i0.bytes = by_) (hzs : z.cells.size = sz) (hbb : by_ ≤ 1000)
    {W : World} {base : Nat} {v : Value} {xs : List α} (h : W.ownsRow base T sz v xs.length (xs.flatMap cells)) (ys : List α) (hm : xs.length + ys.length ≤ 1048576) (ty : TypeId) (b off k : Nat) (src : ∀ i s, ys[i]? = some s → ∀ t u, (cells s)[t]? = some u → W.cell? ⟨b, off + i * sz + t, none⟩ = some u) (hbase : base ≤ W.heap.size) :
    ∃ v' W', (Builtin.append_ #[ST, ST] ty #[v, .slice (some ⟨b, off, none⟩) ys.length k]).run P W = .ok v' W' ∧ W'.ownsRow base T sz v' (xs ++ ys).length ((xs ++ ys).flatMap cells) ∧ W.grownBy W' v.ownBlock ∧ (v'.ownBlock = v.ownBlock ∨ v'.ownBlock = some W.heap.size) := by
  have hadd : ∀ (b o j : Nat), (⟨b, o, none⟩ : Addr).add j = ⟨b, o + j, none⟩ := fun b o j => by unfold Addr.add; split <;> simp_all
  obtain ⟨v', W', hrun, hown, hg, hnil, hlies⟩ := run_append_own_at (P := P) W base ST ty T i0 z sz by_ ht hi hz hs hby hzs hsz
    v xs.length _ h ⟨b, off, none⟩ ys.length k (ys.flatMap cells) (flat_len hl ys) (fun j u hu => by
      have hj : j < ys.length * sz := by rw [← flat_len hl]; exact (List.getElem?_eq_some_iff.1 hu).1
      have hi : j / sz < ys.length := Nat.div_lt_of_lt_mul (by rw [Nat.mul_comm]; exact hj)
      have hxs := List.getElem?_eq_getElem hi
      have hjt : j / sz * sz + j % sz = j := Nat.div_add_mod' j sz
      have := flat_at (f := cells) (l := ys) (fun x _ => hl x) hxs (Nat.mod_lt j hsz)
      rw [hjt] at this
      rw [hadd, ← hjt, ← Nat.add_assoc]
      exact src _ _ hxs _ u (by rw [← this]; exact hu))
    (fun u hu => by obtain ⟨s, _, hs⟩ := List.mem_flatMap.1 hu; exact h1 s u hs) (by unfold maxLen; omega) (by
      have : (xs.length + ys.length) * by_ ≤ 1048576 * 1000 := Nat.mul_le_mul hm hbb
      omega) hbase
  rw [← List.flatMap_append, ← List.length_append] at hown
  exact ⟨v', W', hrun, hown, hg, hlies⟩
theorem setOne : ∀ s : S5, ∀ u ∈ S5.cells s, u.oneCell' = true := fun s u hu => by
  simp only [S5.cells, List.mem_cons, List.not_mem_nil, or_false] at hu
  rcases hu with rfl | rfl | rfl | rfl | rfl <;> rfl
theorem noteOne : ∀ s : N5, ∀ u ∈ s.cells, u.oneCell' = true := fun s u hu => by
  simp only [N5.cells, List.mem_cons, List.not_mem_nil, or_false] at hu
  rcases hu with rfl | rfl | rfl | rfl | rfl <;> rfl
theorem SetAt.cellsAt {w : World} {b o : Nat} {s : S5} (h : SetAt w b o s) : ∀ t u, (S5.cells s)[t]? = some u → w.cell? ⟨b, o + t, none⟩ = some u := fun t u hu => by
  rcases t with _ | _ | _ | _ | _ | t
  · simp [S5.cells] at hu; subst hu; exact h.c0
  · simp [S5.cells] at hu; subst hu; exact h.c1
  · simp [S5.cells] at hu; subst hu; exact h.c2
  · simp [S5.cells] at hu; subst hu; exact h.c3
  · simp [S5.cells] at hu; subst hu; exact h.c4
  · simp [S5.cells] at hu
theorem NoteAt.cellsAt {w : World} {b o : Nat} {s : N5} (h : NoteAt w b o s) : ∀ t u, s.cells[t]? = some u → w.cell? ⟨b, o + t, none⟩ = some u := fun t u hu => by
  rcases t with _ | _ | _ | _ | _ | t
  · simp [N5.cells] at hu; subst hu; exact h.c0
  · simp [N5.cells] at hu; subst hu; exact h.c1
  · simp [N5.cells] at hu; subst hu; exact h.c2
  · simp [N5.cells] at hu; subst hu; exact h.c3
  · simp [N5.cells] at hu; subst hu; exact h.c4
  · simp [N5.cells] at hu
/-- A row of Sets (of Notes) that append makes. -/
def RowS (W : World) (base : Nat) (v : Value) (xs : List S5) : Prop := W.ownsRow base 74 5 v xs.length (xs.flatMap S5.cells)
def RowN (W : World) (base : Nat) (v : Value) (xs : List N5) : Prop := W.ownsRow base 72 5 v xs.length (xs.flatMap N5.cells)
theorem pushSe {W : World} {base : Nat} {v : Value} {xs : List S5} (h : RowS W base v xs) (ys : List S5) (hm : xs.length + ys.length ≤ 1048576) (ty : TypeId) (b off k : Nat) (src : SetsAt W b off ys) (hbase : base ≤ W.heap.size) :
    ∃ v' W', (Builtin.append_ #[38, 38] ty #[v, .slice (some ⟨b, off, none⟩) ys.length k]).run Tryz.prog W = .ok v' W' ∧ RowS W' base v' (xs ++ ys) ∧ W.grownBy W' v.ownBlock ∧ (v'.ownBlock = v.ownBlock ∨ v'.ownBlock = some W.heap.size) := by
  obtain ⟨i0, hi0, hz0, hz1, hz2⟩ := partsOf infoSet
  exact pushX (cells := S5.cells) (fun _ => rfl) setOne (by omega) Tryz.underlying38 hi0 hz0 hz1 hz2 rfl (by omega) h ys hm ty b off k (fun i s e t u hu => (src i s e).cellsAt t u hu) hbase
theorem pushNo {W : World} {base : Nat} {v : Value} {xs : List N5} (h : RowN W base v xs) (ys : List N5) (hm : xs.length + ys.length ≤ 1048576) (ty : TypeId) (b off k : Nat) (src : NotesAt W b off ys) (hbase : base ≤ W.heap.size) :
    ∃ v' W', (Builtin.append_ #[37, 37] ty #[v, .slice (some ⟨b, off, none⟩) ys.length k]).run Tryz.prog W = .ok v' W' ∧ RowN W' base v' (xs ++ ys) ∧ W.grownBy W' v.ownBlock ∧ (v'.ownBlock = v.ownBlock ∨ v'.ownBlock = some W.heap.size) := by
  obtain ⟨i0, hi0, hz0, hz1, hz2⟩ := partsOf infoNote
  exact pushX (cells := N5.cells) (fun _ => rfl) noteOne (by omega) Tryz.underlying37 hi0 hz0 hz1 hz2 rfl (by omega) h ys hm ty b off k (fun i s e t u hu => (src i s e).cellsAt t u hu) hbase
theorem RowS.nil (W : World) (base : Nat) : RowS W base (.slice none 0 0) [] := ⟨rfl, .inl ⟨rfl, rfl⟩⟩
theorem RowN.nil (W : World) (base : Nat) : RowN W base (.slice none 0 0) [] := ⟨rfl, .inl ⟨rfl, rfl⟩⟩
theorem RowS.lt {W : World} {base : Nat} {v : Value} {xs : List S5} (h : RowS W base v xs) {q : Nat} (e : v.ownBlock = some q) : base ≤ q ∧ q < W.heap.size := World.ownsRow.lt h q e
theorem RowN.lt {W : World} {base : Nat} {v : Value} {xs : List N5} (h : RowN W base v xs) {q : Nat} (e : v.ownBlock = some q) : base ≤ q ∧ q < W.heap.size := World.ownsRow.lt h q e
theorem row_keep {W W' : World} {base : Nat} {v : Value} {T : TypeId} {sz n : Nat} {vs : List Value} (h : W.ownsRow base T sz v n vs) (hk : ∀ q, v.ownBlock = some q → W'.heap[q]? = W.heap[q]?) : W'.ownsRow base T sz v n vs := by
  refine ⟨h.1, h.2.imp id ?_⟩
  rintro ⟨q, cap, cur, rfl, l, hg, r⟩
  exact ⟨q, cap, cur, rfl, l, (hk q rfl).trans hg, r⟩
theorem RowS.keep {W W' : World} {base : Nat} {v : Value} {xs : List S5} (h : RowS W base v xs) (hk : ∀ q, base ≤ q → q < W.heap.size → v.ownBlock = some q → W'.heap[q]? = W.heap[q]?) : RowS W' base v xs := row_keep h (fun q e => hk q (h.lt e).1 (h.lt e).2 e)
theorem RowN.keep {W W' : World} {base : Nat} {v : Value} {xs : List N5} (h : RowN W base v xs) (hk : ∀ q, base ≤ q → q < W.heap.size → v.ownBlock = some q → W'.heap[q]? = W.heap[q]?) : RowN W' base v xs := row_keep h (fun q e => hk q (h.lt e).1 (h.lt e).2 e)
theorem RowS.later {W W' : World} {base : Nat} {v : Value} {xs : List S5} (h : RowS W base v xs) (hb : Below W.heap.size W W') : RowS W' base v xs := h.keep (fun q _ hq _ => hb.block q hq)
theorem RowN.later {W W' : World} {base : Nat} {v : Value} {xs : List N5} (h : RowN W base v xs) (hb : Below W.heap.size W W') : RowN W' base v xs := h.keep (fun q _ hq _ => hb.block q hq)
/-- Its value is a slice, and what lies in it. -/
theorem RowS.form {W : World} {base : Nat} {v : Value} {xs : List S5} (h : RowS W base v xs) : ∃ a c, v = .slice a xs.length c ∧ OwnSe W (fun q => v.ownBlock = some q) a xs := by
  rcases h.2 with ⟨rfl, h0⟩ | ⟨q, cap, cur, rfl, hb, hg, hl, _⟩
  · exact ⟨none, 0, by rw [h0], .inl (List.eq_nil_of_length_eq_zero h0)⟩
  · refine ⟨some ⟨q, 0, none⟩, cap, rfl, .inr ⟨q, rfl, rfl, (World.ownsRow.lt h q rfl).2, own_sets h, own_room h⟩⟩
theorem RowN.form {W : World} {base : Nat} {v : Value} {xs : List N5} (h : RowN W base v xs) : ∃ a c, v = .slice a xs.length c ∧ OwnNo W (fun q => v.ownBlock = some q) a xs := by
  rcases h.2 with ⟨rfl, h0⟩ | ⟨q, cap, cur, rfl, hb, hg, hl, _⟩
  · exact ⟨none, 0, by rw [h0], .inl (List.eq_nil_of_length_eq_zero h0)⟩
  · refine ⟨some ⟨q, 0, none⟩, cap, rfl, .inr ⟨q, rfl, rfl, (World.ownsRow.lt h q rfl).2, own_notes h, own_roomNo h⟩⟩
theorem RowS.made (W : World) : RowS (W.alloc (.cells #[] 74)) W.heap.size (.slice (some ⟨W.heap.size, 0, none⟩) 0 0) [] := World.ownsRow_made W #[] 0 (Nat.le_refl _) (Nat.zero_le _) rfl
theorem RowN.made (W : World) : RowN (W.alloc (.cells #[] 72)) W.heap.size (.slice (some ⟨W.heap.size, 0, none⟩) 0 0) [] := World.ownsRow_made W #[] 0 (Nat.le_refl _) (Nat.zero_le _) rfl
theorem SetAt.box (W : World) (s : S5) (T : TypeId) : SetAt (W.alloc (.cells #[.int .i64 s.region, .int .i64 s.slot, .int .i64 s.value, .bool s.used, .int .i64 s.version] T)) W.heap.size 0 s := ⟨by go_simp, by go_simp, by go_simp, by go_simp, by go_simp⟩
theorem NoteAt.box (W : World) (s : N5) (T : TypeId) : NoteAt (W.alloc (.cells #[.int .i64 s.region, .int .i64 s.slot, .int .i64 s.version, .int .i64 s.value, .bool s.used] T)) W.heap.size 0 s := ⟨by go_simp, by go_simp, by go_simp, by go_simp, by go_simp⟩
theorem SetAt.one {W : World} {b o : Nat} {s : S5} (h : SetAt W b o s) : SetsAt W b o [s] := fun i x e => by
  rcases i with _ | i
  · simp at e; subst e; simpa using h
  · simp at e
theorem NoteAt.one {W : World} {b o : Nat} {s : N5} (h : NoteAt W b o s) : NotesAt W b o [s] := fun i x e => by
  rcases i with _ | i
  · simp at e; subst e; simpa using h
  · simp at e
end Go.Proofs.YtalmflikdnflfaaGreat.tx
