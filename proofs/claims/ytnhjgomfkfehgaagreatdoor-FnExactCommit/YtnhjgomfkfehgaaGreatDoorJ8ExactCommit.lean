/- YNoA; YRowA; YOwnP; YOwnTs; CpCl; CluS; ErrA; ErrB; ErrC: joined. -/
import Derived.Test.YtnhjgomfkfehgaaGreatDoorRows
import Derived.Test.YtnhjgomfkfehgaaGreatDoorJ4ExactCommit
import Derived.WalkKit
import Derived.Below
import Derived.Maps.AppendAt
import Derived.Laws.OwnMore
import Derived.Deep.AppendLies
import Derived.Deep.Heap
import Derived.WalkSpells
import Derived.WalkLawsBesides
import Derived.Deep.Upon
import Derived.Test.YtnhjgomfkfehgaaGreatDoorJ7ExactCommit
import Derived.Lib.QuietBelow
import Derived.BigQuiet
import Derived.Deep.CutRange
import Derived.Test.YtnhjgomfkfehgaaGreatDoorJ5ExactCommit
import Derived.Test.YtnhjgomfkfehgaaGreatDoorJ2ExactCommit
import Derived.LaidEql
import Derived.Stop.Asserts
import Derived.RowKitTokens
namespace Go.Proofs.YtnhjgomfkfehgaaGreatDoor.tx
open Go.RowKit
def S5.cells (s : S5) : List Value := [.int .i64 s.region, .int .i64 s.slot, .int .i64 s.value, .bool s.used, .int .i64 s.version]
def N5.cells (s : N5) : List Value := [.int .i64 s.region, .int .i64 s.slot, .int .i64 s.version, .int .i64 s.value, .bool s.used]
theorem partsOf {P : Program} {t : TypeId} {z : Value} {s b : Nat} (h : (P.info? t).map (fun i => (i.zero, i.size, i.bytes)) = some (some z, s, b)) : ∃ i, P.info? t = some i ∧ i.zero = some z ∧ i.size = s ∧ i.bytes = b := by
  obtain ⟨i, hi, hzz⟩ := Option.map_eq_some_iff.1 h
  simp only [Prod.mk.injEq] at hzz
  exact ⟨i, hi, hzz.1, hzz.2.1, hzz.2.2⟩
theorem flat_at {β : Type} {f : β → List Value} {sz : Nat} : ∀ {l : List β} (_ : ∀ x ∈ l, (f x).length = sz) {i t : Nat} {x : β}, l[i]? = some x → t < sz → (l.flatMap f)[i * sz + t]? = (f x)[t]?
  | [], _, i, t, x, h, _ => by simp at h
  | y :: l, hf, 0, t, x, h, ht => by
    simp at h
    subst h
    rw [List.flatMap_cons, List.getElem?_append_left (by rw [hf y (by simp)]; omega)]
    simp
  | y :: l, hf, i + 1, t, x, h, ht => by
    have hl := hf y (by simp)
    rw [List.flatMap_cons, List.getElem?_append_right (by rw [hl, Nat.add_mul]; omega), hl, show (i + 1) * sz + t - sz = i * sz + t by rw [Nat.add_mul]; omega]
    exact flat_at (fun x hx => hf x (by simp [hx])) (by simpa using h) ht
theorem appendX {α : Type} {cells : α → List Value} {T ST : TypeId} {sz by_ : Nat} (hl : ∀ s, (cells s).length = sz) (h1 : ∀ s, ∀ u ∈ cells s, u.oneCell' = true) (hsz : 0 < sz) {P : Program} {i0 : TypeInfo} {z : Value} (ht : P.underlying ST = some (.slice T)) (hi : P.info? T = some i0) (hz : i0.zero = some z) (hs : i0.size = sz) (hby : i0.bytes = by_) (hzs : z.cells.size = sz) (hbb : by_ ≤ 1000)
    {W : World} {base : Nat} {v : Value} (h : W.ownsRow base T sz v 0 []) (xs : List α) (hx : 0 < xs.length) (hm : xs.length ≤ 1048576) (ty : TypeId) (b off k : Nat) (src : ∀ i s, xs[i]? = some s → ∀ t u, (cells s)[t]? = some u → W.cell? ⟨b, off + i * sz + t, none⟩ = some u) (hbase : base ≤ W.heap.size) :
    ∃ q cap W', (Builtin.append_ #[ST, ST] ty #[v, .slice (some ⟨b, off, none⟩) xs.length k]).run P W = .ok (.slice (some ⟨q, 0, none⟩) xs.length cap) W' ∧ base ≤ q ∧ q < W'.heap.size ∧ xs.length ≤ cap ∧ (∀ i s, xs[i]? = some s → ∀ t u, (cells s)[t]? = some u → W'.cell? ⟨q, i * sz + t, none⟩ = some u) ∧ Room W' q (xs.length * sz) ∧ W.grownBy W' v.ownBlock ∧ (v.ownBlock = some q ∨ q = W.heap.size) ∧ W'.ownsRow base T sz (.slice (some ⟨q, 0, none⟩) xs.length cap) xs.length (xs.flatMap cells) := by
  have hadd : ∀ (b o j : Nat), (⟨b, o, none⟩ : Addr).add j = ⟨b, o + j, none⟩ := fun b o j => by unfold Addr.add; split <;> simp_all
  have hfl : ∀ l : List α, (l.flatMap cells).length = l.length * sz := fun l => by
    induction l with
    | nil => simp
    | cons y l ih => rw [List.flatMap_cons, List.length_append, ih, hl, List.length_cons, Nat.add_mul]; omega
  obtain ⟨v', W', hrun, hown, hg, hnil, hlies⟩ := run_append_own_at (P := P) W base ST ty T i0 z sz by_ ht hi hz hs hby hzs hsz
    v 0 [] h ⟨b, off, none⟩ xs.length k (xs.flatMap cells) (hfl xs) (fun j u hu => by
      have hj : j < xs.length * sz := by rw [← hfl]; exact (List.getElem?_eq_some_iff.1 hu).1
      have hi : j / sz < xs.length := Nat.div_lt_of_lt_mul (by rw [Nat.mul_comm]; exact hj)
      have hxs := List.getElem?_eq_getElem hi
      have hjt : j / sz * sz + j % sz = j := Nat.div_add_mod' j sz
      have := flat_at (f := cells) (l := xs) (fun x _ => hl x) hxs (Nat.mod_lt j hsz)
      rw [hjt] at this
      rw [hadd, ← hjt, ← Nat.add_assoc]
      exact src _ _ hxs _ u (by rw [← this]; exact hu))
    (fun u hu => by obtain ⟨s, _, hs⟩ := List.mem_flatMap.1 hu; exact h1 s u hs) (by unfold maxLen; omega) (by
      have : (0 + xs.length) * by_ ≤ 1048576 * 1000 := Nat.mul_le_mul (by omega) hbb
      omega) hbase
  rw [Nat.zero_add, List.nil_append] at hown
  have hcap : ∃ q cap, v' = .slice (some ⟨q, 0, none⟩) xs.length cap ∧ xs.length ≤ cap := by
    rcases hown.2 with ⟨_, h0⟩ | ⟨q, cap, cur, rfl, _, _, hl, _⟩
    · omega
    · exact ⟨q, cap, rfl, hl⟩
  obtain ⟨q, cap, rfl, hc⟩ := hcap
  have hb := World.ownsRow.lt hown q rfl
  refine ⟨q, cap, W', hrun, hb.1, hb.2, hc, fun i s e t u hu => ?_, fun j hj => ?_, hg, ?_, hown⟩
  · have hi := (List.getElem?_eq_some_iff.1 e).1
    have ht := (List.getElem?_eq_some_iff.1 hu).1
    rw [hl] at ht
    have : (i + 1) * sz ≤ xs.length * sz := Nat.mul_le_mul_right sz hi
    rw [Nat.add_mul] at this
    rw [World.ownsRow.cellAt hown _ (by omega), flat_at (fun x _ => hl x) e ht]; exact hu
  · exact ⟨_, by rw [World.ownsRow.cellAt hown j hj]; exact List.getElem?_eq_getElem (by rw [hfl]; exact hj), World.ownsRow.frozenAt hown j⟩
  · rcases hlies with e | e
    · exact .inl e.symm
    · exact .inr (Option.some.inj e)
theorem flat5 : ∀ (xs : List S5) (i : Nat) (s : S5) (j : Nat), xs[i]? = some s → j < 5 → (xs.flatMap S5.cells)[i * 5 + j]? = (S5.cells s)[j]?
  | [], i, s, j, h, _ => by simp at h
  | x :: xs, 0, s, j, h, hj => by
    simp at h
    subst h
    rw [List.flatMap_cons, List.getElem?_append_left (by simp [S5.cells]; omega)]
    simp
  | x :: xs, i + 1, s, j, h, hj => by
    have hl : (S5.cells x).length = 5 := rfl
    rw [List.flatMap_cons, List.getElem?_append_right (by rw [hl]; omega), hl, show (i + 1) * 5 + j - 5 = i * 5 + j by omega]
    exact flat5 xs i s j (by simpa using h) hj
theorem own_sets {w : World} {B : Nat} {t : TypeId} {g n cap : Nat} {xs : List S5} (h : w.ownsRow B t 5 (.slice (some ⟨g, 0, none⟩) n cap) n (xs.flatMap S5.cells)) : SetsAt w g 0 xs := by
  have key : ∀ (j : Nat) (u : Value), (xs.flatMap S5.cells)[j]? = some u → w.cell? ⟨g, j, none⟩ = some u := by
    intro j u e
    rcases h.2 with ⟨h0, _⟩ | ⟨g', cap', cur, hv, _, hg, _, _, _, ht⟩
    · cases h0
    · cases hv
      rw [cell_of_row w g j cur t (0, 0) hg]
      rw [← ht, List.getElem?_take] at e
      split at e
      · simpa using e
      · cases e
  intro i s e
  have f := fun j hj => flat5 xs i s j e hj
  rw [Nat.zero_add]
  exact ⟨key _ _ (by simpa [S5.cells] using f 0 (by omega)), key _ _ (by simpa [S5.cells] using f 1 (by omega)), key _ _ (by simpa [S5.cells] using f 2 (by omega)), key _ _ (by simpa [S5.cells] using f 3 (by omega)), key _ _ (by simpa [S5.cells] using f 4 (by omega))⟩
theorem own_room {w : World} {B : Nat} {t : TypeId} {g n cap : Nat} {vs : List Value} (h : w.ownsRow B t 5 (.slice (some ⟨g, 0, none⟩) n cap) n vs) : Room w g (n * 5) := by
  intro j hj
  rcases h.2 with ⟨h0, _⟩ | ⟨g', cap', cur, hv, _, hg, hn, _, hc, ht⟩
  · cases h0
  · cases hv
    have hlt : j < cur.size := by
      have : n * 5 ≤ cap * 5 := Nat.mul_le_mul_right 5 hn
      omega
    refine ⟨cur[j], ?_, ?_⟩
    · rw [cell_of_row w g j cur t (0, 0) hg, Array.getElem?_eq_getElem hlt]
    · simp [World.frozen?, hg]
theorem infoSet : (Tryz.prog.info? 109).map (fun i => (i.zero, i.size, i.bytes)) = some (some (.agg #[.int .i64 0, .int .i64 0, .int .i64 0, .bool false, .int .i64 0]), 5, 40) := by kernel_rfl
theorem appendS (W : World) (base : Nat) (v : Value) (h : W.ownsRow base 109 5 v 0 []) (xs : List S5) (hx : 0 < xs.length) (hm : xs.length ≤ 1048576) (ty : TypeId) (b off k : Nat) (src : SetsAt W b off xs) (hbase : base ≤ W.heap.size) :
    ∃ q cap W', (Builtin.append_ #[54, 54] ty #[v, .slice (some ⟨b, off, none⟩) xs.length k]).run Tryz.prog W = .ok (.slice (some ⟨q, 0, none⟩) xs.length cap) W' ∧ base ≤ q ∧ q < W'.heap.size ∧ xs.length ≤ cap ∧ SetsAt W' q 0 xs ∧ Room W' q (xs.length * 5) ∧ W.grownBy W' v.ownBlock ∧ (v.ownBlock = some q ∨ q = W.heap.size) := by
  obtain ⟨i0, hi0, hz0, hz1, hz2⟩ := partsOf infoSet
  obtain ⟨q, cap, W', h1, h2, h3, h4, h5, h6, h7, h8, _⟩ := appendX (cells := S5.cells) (fun _ => rfl) (fun s u hu => by
    simp only [S5.cells, List.mem_cons, List.not_mem_nil, or_false] at hu
    rcases hu with rfl | rfl | rfl | rfl | rfl <;> rfl) (by omega) Tryz.underlying54 hi0 hz0 hz1 hz2 rfl (by omega) h xs hx hm ty b off k (fun i s e t u hu => by
      obtain ⟨c0, c1, c2, c3, c4⟩ := src i s e
      rcases t with _ | _ | _ | _ | _ | t
      · simp [S5.cells] at hu; subst hu; exact c0
      · simp [S5.cells] at hu; subst hu; exact c1
      · simp [S5.cells] at hu; subst hu; exact c2
      · simp [S5.cells] at hu; subst hu; exact c3
      · simp [S5.cells] at hu; subst hu; exact c4
      · simp [S5.cells] at hu) hbase
  refine ⟨q, cap, W', h1, h2, h3, h4, fun i s e => ⟨?_, ?_, ?_, ?_, ?_⟩, h6, h7, h8⟩
  · rw [Nat.zero_add]; exact h5 i s e 0 _ rfl
  · rw [Nat.zero_add]; exact h5 i s e 1 _ rfl
  · rw [Nat.zero_add]; exact h5 i s e 2 _ rfl
  · rw [Nat.zero_add]; exact h5 i s e 3 _ rfl
  · rw [Nat.zero_add]; exact h5 i s e 4 _ rfl
theorem flatNo : ∀ (xs : List N5) (i : Nat) (s : N5) (j : Nat), xs[i]? = some s → j < 5 → (xs.flatMap N5.cells)[i * 5 + j]? = s.cells[j]?
  | [], i, s, j, h, _ => by simp at h
  | x :: xs, 0, s, j, h, hj => by
    simp at h
    subst h
    rw [List.flatMap_cons, List.getElem?_append_left (by simp [N5.cells]; omega)]
    simp
  | x :: xs, i + 1, s, j, h, hj => by
    have hl : x.cells.length = 5 := rfl
    rw [List.flatMap_cons, List.getElem?_append_right (by rw [hl]; omega), hl, show (i + 1) * 5 + j - 5 = i * 5 + j by omega]
    exact flatNo xs i s j (by simpa using h) hj
theorem own_notes {w : World} {B : Nat} {t : TypeId} {g n cap : Nat} {xs : List N5} (h : w.ownsRow B t 5 (.slice (some ⟨g, 0, none⟩) n cap) n (xs.flatMap N5.cells)) : NotesAt w g 0 xs := by
  have key : ∀ (j : Nat) (u : Value), (xs.flatMap N5.cells)[j]? = some u → w.cell? ⟨g, j, none⟩ = some u := by
    intro j u e
    rcases h.2 with ⟨h0, _⟩ | ⟨g', cap', cur, hv, _, hg, _, _, _, ht⟩
    · cases h0
    · cases hv
      rw [cell_of_row w g j cur t (0, 0) hg]
      rw [← ht, List.getElem?_take] at e
      split at e
      · simpa using e
      · cases e
  intro i s e
  have f := fun j hj => flatNo xs i s j e hj
  rw [Nat.zero_add]
  exact ⟨key _ _ (by simpa [N5.cells] using f 0 (by omega)), key _ _ (by simpa [N5.cells] using f 1 (by omega)), key _ _ (by simpa [N5.cells] using f 2 (by omega)), key _ _ (by simpa [N5.cells] using f 3 (by omega)), key _ _ (by simpa [N5.cells] using f 4 (by omega))⟩
theorem own_roomNo {w : World} {B : Nat} {t : TypeId} {g n cap : Nat} {vs : List Value} (h : w.ownsRow B t 5 (.slice (some ⟨g, 0, none⟩) n cap) n vs) : Room w g (n * 5) := by
  intro j hj
  rcases h.2 with ⟨h0, _⟩ | ⟨g', cap', cur, hv, _, hg, hn, _, hc, ht⟩
  · cases h0
  · cases hv
    have hlt : j < cur.size := by
      have : n * 5 ≤ cap * 5 := Nat.mul_le_mul_right 5 hn
      omega
    refine ⟨cur[j], ?_, ?_⟩
    · rw [cell_of_row w g j cur t (0, 0) hg, Array.getElem?_eq_getElem hlt]
    · simp [World.frozen?, hg]
theorem infoNote : (Tryz.prog.info? 106).map (fun i => (i.zero, i.size, i.bytes)) = some (some (.agg #[.int .i64 0, .int .i64 0, .int .i64 0, .int .i64 0, .bool false]), 5, 40) := by kernel_rfl
theorem flat_len {α : Type} {cells : α → List Value} {sz : Nat} (hl : ∀ s, (cells s).length = sz) (l : List α) : (l.flatMap cells).length = l.length * sz := by
  induction l with
  | nil => simp
  | cons y l ih => rw [List.flatMap_cons, List.length_append, ih, hl, List.length_cons, Nat.add_mul]; omega
theorem pushX {α : Type} {cells : α → List Value} {T ST : TypeId} {sz by_ : Nat} (hl : ∀ s, (cells s).length = sz) (h1 : ∀ s, ∀ u ∈ cells s, u.oneCell' = true) (hsz : 0 < sz) {P : Program} {i0 : TypeInfo} {z : Value} (ht : P.underlying ST = some (.slice T)) (hi : P.info? T = some i0) (hz : i0.zero = some z) (hs : i0.size = sz) (hby : i0.bytes = by_) (hzs : z.cells.size = sz) (hbb : by_ ≤ 1000)
    {W : World} {base : Nat} {v : Value} {xs : List α} (h : W.ownsRow base T sz v xs.length (xs.flatMap cells)) (ys : List α) (hm : xs.length + ys.length ≤ 1048576) (ty : TypeId) (b off k : Nat) (src : ∀ i s, ys[i]? = some s → ∀ t u, (cells s)[t]? = some u → W.cell? ⟨b, off + i * sz + t, none⟩ = some u) (hbase : base ≤ W.heap.size) :
    ∃ v' W', (Builtin.append_ #[ST, ST] ty #[v, .slice (some ⟨b, off, none⟩) ys.length k]).run P W = .ok v' W' ∧ W'.ownsRow base T sz v' (xs ++ ys).length ((xs ++ ys).flatMap cells) ∧ W.grownBy W' v.ownBlock ∧ (v'.ownBlock = v.ownBlock ∨ v'.ownBlock = some W.heap.size) := by
  have hadd : ∀ (b o j : Nat), (⟨b, o, none⟩ : Addr).add j = ⟨b, o + j, none⟩ := fun b o j => by unfold Addr.add; split <;> simp_all
  obtain ⟨v', W', hrun, hown, hg, hnil, hlies⟩ := run_append_own_at (P := P) W base ST ty T i0 z sz by_ ht hi hz hs hby hzs hsz
    v xs.length _ h ⟨b, off, none⟩ ys.length k (ys.flatMap cells) (flat_len hl ys) (fun j u hu => by
      have hj : j < ys.length * sz := by rw [← flat_len hl]; exact (List.getElem?_eq_some_iff.1 hu).1
      have hi : j / sz < ys.length := Nat.div_lt_of_lt_mul (by rw [Nat.mul_comm]; exact hj)
      have hxs := List.getElem?_eq_getElem hi
      have hjt : j / sz * sz + j % sz = j := Nat.div_add_mod' j sz
      have := flat_at (f := cells) (l := ys) (fun x _ => hl x) hxs (Nat.mod_lt j hsz)
      rw [hjt] at this
      rw [hadd, ← hjt, ← Nat.add_assoc]
      exact src _ _ hxs _ u (by rw [← this]; exact hu))
    (fun u hu => by obtain ⟨s, _, hs⟩ := List.mem_flatMap.1 hu; exact h1 s u hs) (by unfold maxLen; omega) (by
      have : (xs.length + ys.length) * by_ ≤ 1048576 * 1000 := Nat.mul_le_mul hm hbb
      omega) hbase
  rw [← List.flatMap_append, ← List.length_append] at hown
  exact ⟨v', W', hrun, hown, hg, hlies⟩
theorem setOne : ∀ s : S5, ∀ u ∈ S5.cells s, u.oneCell' = true := fun s u hu => by
  simp only [S5.cells, List.mem_cons, List.not_mem_nil, or_false] at hu
  rcases hu with rfl | rfl | rfl | rfl | rfl <;> rfl
theorem noteOne : ∀ s : N5, ∀ u ∈ s.cells, u.oneCell' = true := fun s u hu => by
  simp only [N5.cells, List.mem_cons, List.not_mem_nil, or_false] at hu
  rcases hu with rfl | rfl | rfl | rfl | rfl <;> rfl
theorem SetAt.cellsAt {w : World} {b o : Nat} {s : S5} (h : SetAt w b o s) : ∀ t u, (S5.cells s)[t]? = some u → w.cell? ⟨b, o + t, none⟩ = some u := fun t u hu => by
  rcases t with _ | _ | _ | _ | _ | t
  · simp [S5.cells] at hu; subst hu; exact h.c0
  · simp [S5.cells] at hu; subst hu; exact h.c1
  · simp [S5.cells] at hu; subst hu; exact h.c2
  · simp [S5.cells] at hu; subst hu; exact h.c3
  · simp [S5.cells] at hu; subst hu; exact h.c4
  · simp [S5.cells] at hu
theorem NoteAt.cellsAt {w : World} {b o : Nat} {s : N5} (h : NoteAt w b o s) : ∀ t u, s.cells[t]? = some u → w.cell? ⟨b, o + t, none⟩ = some u := fun t u hu => by
  rcases t with _ | _ | _ | _ | _ | t
  · simp [N5.cells] at hu; subst hu; exact h.c0
  · simp [N5.cells] at hu; subst hu; exact h.c1
  · simp [N5.cells] at hu; subst hu; exact h.c2
  · simp [N5.cells] at hu; subst hu; exact h.c3
  · simp [N5.cells] at hu; subst hu; exact h.c4
  · simp [N5.cells] at hu
def RowS (W : World) (base : Nat) (v : Value) (xs : List S5) : Prop := W.ownsRow base 109 5 v xs.length (xs.flatMap S5.cells)
def RowN (W : World) (base : Nat) (v : Value) (xs : List N5) : Prop := W.ownsRow base 106 5 v xs.length (xs.flatMap N5.cells)
theorem pushSe {W : World} {base : Nat} {v : Value} {xs : List S5} (h : RowS W base v xs) (ys : List S5) (hm : xs.length + ys.length ≤ 1048576) (ty : TypeId) (b off k : Nat) (src : SetsAt W b off ys) (hbase : base ≤ W.heap.size) :
    ∃ v' W', (Builtin.append_ #[54, 54] ty #[v, .slice (some ⟨b, off, none⟩) ys.length k]).run Tryz.prog W = .ok v' W' ∧ RowS W' base v' (xs ++ ys) ∧ W.grownBy W' v.ownBlock ∧ (v'.ownBlock = v.ownBlock ∨ v'.ownBlock = some W.heap.size) := by
  obtain ⟨i0, hi0, hz0, hz1, hz2⟩ := partsOf infoSet
  exact pushX (cells := S5.cells) (fun _ => rfl) setOne (by omega) Tryz.underlying54 hi0 hz0 hz1 hz2 rfl (by omega) h ys hm ty b off k (fun i s e t u hu => (src i s e).cellsAt t u hu) hbase
theorem pushNo {W : World} {base : Nat} {v : Value} {xs : List N5} (h : RowN W base v xs) (ys : List N5) (hm : xs.length + ys.length ≤ 1048576) (ty : TypeId) (b off k : Nat) (src : NotesAt W b off ys) (hbase : base ≤ W.heap.size) :
    ∃ v' W', (Builtin.append_ #[53, 53] ty #[v, .slice (some ⟨b, off, none⟩) ys.length k]).run Tryz.prog W = .ok v' W' ∧ RowN W' base v' (xs ++ ys) ∧ W.grownBy W' v.ownBlock ∧ (v'.ownBlock = v.ownBlock ∨ v'.ownBlock = some W.heap.size) := by
  obtain ⟨i0, hi0, hz0, hz1, hz2⟩ := partsOf infoNote
  exact pushX (cells := N5.cells) (fun _ => rfl) noteOne (by omega) Tryz.underlying53 hi0 hz0 hz1 hz2 rfl (by omega) h ys hm ty b off k (fun i s e t u hu => (src i s e).cellsAt t u hu) hbase
theorem RowS.nil (W : World) (base : Nat) : RowS W base (.slice none 0 0) [] := ⟨rfl, .inl ⟨rfl, rfl⟩⟩
theorem RowN.nil (W : World) (base : Nat) : RowN W base (.slice none 0 0) [] := ⟨rfl, .inl ⟨rfl, rfl⟩⟩
theorem RowS.lt {W : World} {base : Nat} {v : Value} {xs : List S5} (h : RowS W base v xs) {q : Nat} (e : v.ownBlock = some q) : base ≤ q ∧ q < W.heap.size := World.ownsRow.lt h q e
theorem RowN.lt {W : World} {base : Nat} {v : Value} {xs : List N5} (h : RowN W base v xs) {q : Nat} (e : v.ownBlock = some q) : base ≤ q ∧ q < W.heap.size := World.ownsRow.lt h q e
theorem row_keep {W W' : World} {base : Nat} {v : Value} {T : TypeId} {sz n : Nat} {vs : List Value} (h : W.ownsRow base T sz v n vs) (hk : ∀ q, v.ownBlock = some q → W'.heap[q]? = W.heap[q]?) : W'.ownsRow base T sz v n vs := by
  refine ⟨h.1, h.2.imp id ?_⟩
  rintro ⟨q, cap, cur, rfl, l, hg, r⟩
  exact ⟨q, cap, cur, rfl, l, (hk q rfl).trans hg, r⟩
theorem RowS.keep {W W' : World} {base : Nat} {v : Value} {xs : List S5} (h : RowS W base v xs) (hk : ∀ q, base ≤ q → q < W.heap.size → v.ownBlock = some q → W'.heap[q]? = W.heap[q]?) : RowS W' base v xs := row_keep h (fun q e => hk q (h.lt e).1 (h.lt e).2 e)
theorem RowN.keep {W W' : World} {base : Nat} {v : Value} {xs : List N5} (h : RowN W base v xs) (hk : ∀ q, base ≤ q → q < W.heap.size → v.ownBlock = some q → W'.heap[q]? = W.heap[q]?) : RowN W' base v xs := row_keep h (fun q e => hk q (h.lt e).1 (h.lt e).2 e)
theorem RowS.later {W W' : World} {base : Nat} {v : Value} {xs : List S5} (h : RowS W base v xs) (hb : Below W.heap.size W W') : RowS W' base v xs := h.keep (fun q _ hq _ => hb.block q hq)
theorem RowN.later {W W' : World} {base : Nat} {v : Value} {xs : List N5} (h : RowN W base v xs) (hb : Below W.heap.size W W') : RowN W' base v xs := h.keep (fun q _ hq _ => hb.block q hq)
theorem RowS.form {W : World} {base : Nat} {v : Value} {xs : List S5} (h : RowS W base v xs) : ∃ a c, v = .slice a xs.length c ∧ OwnSe W (fun q => v.ownBlock = some q) a xs := by
  rcases h.2 with ⟨rfl, h0⟩ | ⟨q, cap, cur, rfl, hb, hg, hl, _⟩
  · exact ⟨none, 0, by rw [h0], .inl (List.eq_nil_of_length_eq_zero h0)⟩
  · refine ⟨some ⟨q, 0, none⟩, cap, rfl, .inr ⟨q, rfl, rfl, (World.ownsRow.lt h q rfl).2, own_sets h, own_room h⟩⟩
theorem RowN.form {W : World} {base : Nat} {v : Value} {xs : List N5} (h : RowN W base v xs) : ∃ a c, v = .slice a xs.length c ∧ OwnNo W (fun q => v.ownBlock = some q) a xs := by
  rcases h.2 with ⟨rfl, h0⟩ | ⟨q, cap, cur, rfl, hb, hg, hl, _⟩
  · exact ⟨none, 0, by rw [h0], .inl (List.eq_nil_of_length_eq_zero h0)⟩
  · refine ⟨some ⟨q, 0, none⟩, cap, rfl, .inr ⟨q, rfl, rfl, (World.ownsRow.lt h q rfl).2, own_notes h, own_roomNo h⟩⟩
theorem RowS.made (W : World) : RowS (W.alloc (.cells #[] 109)) W.heap.size (.slice (some ⟨W.heap.size, 0, none⟩) 0 0) [] := World.ownsRow_made W #[] 0 (Nat.le_refl _) (Nat.zero_le _) rfl
theorem RowN.made (W : World) : RowN (W.alloc (.cells #[] 106)) W.heap.size (.slice (some ⟨W.heap.size, 0, none⟩) 0 0) [] := World.ownsRow_made W #[] 0 (Nat.le_refl _) (Nat.zero_le _) rfl
theorem SetAt.box (W : World) (s : S5) (T : TypeId) : SetAt (W.alloc (.cells #[.int .i64 s.region, .int .i64 s.slot, .int .i64 s.value, .bool s.used, .int .i64 s.version] T)) W.heap.size 0 s := ⟨by go_simp, by go_simp, by go_simp, by go_simp, by go_simp⟩
theorem NoteAt.box (W : World) (s : N5) (T : TypeId) : NoteAt (W.alloc (.cells #[.int .i64 s.region, .int .i64 s.slot, .int .i64 s.version, .int .i64 s.value, .bool s.used] T)) W.heap.size 0 s := ⟨by go_simp, by go_simp, by go_simp, by go_simp, by go_simp⟩
theorem SetAt.one {W : World} {b o : Nat} {s : S5} (h : SetAt W b o s) : SetsAt W b o [s] := fun i x e => by
  rcases i with _ | i
  · simp at e; subst e; simpa using h
  · simp at e
theorem NoteAt.one {W : World} {b o : Nat} {s : N5} (h : NoteAt W b o s) : NotesAt W b o [s] := fun i x e => by
  rcases i with _ | i
  · simp at e; subst e; simpa using h
  · simp at e
def OAns (w : World) (t : T7) (e : Ending) (w' : World) : Prop := ∃ (a4 : Option Addr) (c4 : Nat) (h4 : Option Addr) (d4 : Nat) (PR PS : Nat → Prop), e = .returned ((TV.mk a4 c4 h4 d4).val t) ∧ OT w' w.heap.size ⟨a4, c4, h4, d4⟩ t PR PS ∧ Below w.heap.size w w'
theorem pushNoAny {W : World} {base : Nat} {v : Value} {xs : List N5} (h : RowN W base v xs) (ys : List N5) (hm : xs.length + ys.length ≤ 1048576) (ty : TypeId) (a : Option Addr) (k : Nat) (src : SlNo W W.heap.size a ys.length ys) (hbase : base ≤ W.heap.size) :
    ∃ a' c' W', (Builtin.append_ #[53, 53] ty #[v, .slice a ys.length k]).run Tryz.prog W = .ok (.slice a' (xs ++ ys).length c') W' ∧ RowN W' base (.slice a' (xs ++ ys).length c') (xs ++ ys) ∧ W.grownBy W' v.ownBlock ∧ ((Value.slice a' (xs ++ ys).length c').ownBlock = v.ownBlock ∨ (Value.slice a' (xs ++ ys).length c').ownBlock = some W.heap.size) := by
  by_cases e : ys = []
  · subst e
    obtain ⟨i0, hi0, hz0, hz1, hz2⟩ := partsOf infoNote
    obtain ⟨a0, c0, rfl, -⟩ := h.form
    have hle : xs.length ≤ c0 := by
      rcases h.2 with ⟨h0, h1⟩ | ⟨q', cap', cur, h0, _, _, hc, _⟩
      · rw [h1]; exact Nat.zero_le _
      · cases h0; exact hc
    simp only [List.append_nil]
    refine ⟨a0, c0, W, ?_, h, ⟨rfl, rfl, rfl, Nat.le_refl _, fun _ _ _ => rfl⟩, .inl rfl⟩
    refine run_append_nothing W 53 53 ty 106 i0 Tryz.underlying53 hi0 a0 xs.length c0 hle (.slice a 0 k) ?_
    cases a with
    | none => exact Src.ofNil W Tryz.underlying53 k
    | some x => exact Src.ofSlice W Tryz.underlying53 x 0 k [] (by simp) (fun j u hu => by simp at hu) (fun u hu => by cases hu)
  · have hpos : 0 < ys.length := List.length_pos_iff.2 e
    obtain ⟨_, src⟩ := src
    rcases src with src | ⟨b, off, rfl, hb, hx⟩
    · omega
    obtain ⟨v', W', h1, h2, h3, h4⟩ := pushNo h ys hm ty b off k hx hbase
    obtain ⟨a', c', rfl, -⟩ := h2.form
    exact ⟨a', c', W', h1, h2, h3, h4⟩
theorem copyNo {W : World} {base : Nat} {v : Value} (h : RowN W base v []) (ys : List N5) (hm : ys.length ≤ 1048576) (ty : TypeId) (a : Option Addr) (k : Nat) (src : SlNo W W.heap.size a ys.length ys) (hbase : base ≤ W.heap.size) :
    ∃ a' c' W', (Builtin.append_ #[53, 53] ty #[v, .slice a ys.length k]).run Tryz.prog W = .ok (.slice a' ys.length c') W' ∧ RowN W' base (.slice a' ys.length c') ys ∧ W.grownBy W' v.ownBlock :=
  let ⟨a', c', W', h1, h2, h3, _⟩ := pushNoAny h ys (by simpa using hm) ty a k src hbase
  ⟨a', c', W', h1, h2, h3⟩
theorem pushSeAny {W : World} {base : Nat} {v : Value} {xs : List S5} (h : RowS W base v xs) (ys : List S5) (hm : xs.length + ys.length ≤ 1048576) (ty : TypeId) (a : Option Addr) (k : Nat) (src : Sl W W.heap.size a ys.length ys) (hbase : base ≤ W.heap.size) :
    ∃ a' c' W', (Builtin.append_ #[54, 54] ty #[v, .slice a ys.length k]).run Tryz.prog W = .ok (.slice a' (xs ++ ys).length c') W' ∧ RowS W' base (.slice a' (xs ++ ys).length c') (xs ++ ys) ∧ W.grownBy W' v.ownBlock ∧ ((Value.slice a' (xs ++ ys).length c').ownBlock = v.ownBlock ∨ (Value.slice a' (xs ++ ys).length c').ownBlock = some W.heap.size) := by
  by_cases e : ys = []
  · subst e
    obtain ⟨i0, hi0, hz0, hz1, hz2⟩ := partsOf infoSet
    obtain ⟨a0, c0, rfl, -⟩ := h.form
    have hle : xs.length ≤ c0 := by
      rcases h.2 with ⟨h0, h1⟩ | ⟨q', cap', cur, h0, _, _, hc, _⟩
      · rw [h1]; exact Nat.zero_le _
      · cases h0; exact hc
    simp only [List.append_nil]
    refine ⟨a0, c0, W, ?_, h, ⟨rfl, rfl, rfl, Nat.le_refl _, fun _ _ _ => rfl⟩, .inl rfl⟩
    refine run_append_nothing W 54 54 ty 109 i0 Tryz.underlying54 hi0 a0 xs.length c0 hle (.slice a 0 k) ?_
    cases a with
    | none => exact Src.ofNil W Tryz.underlying54 k
    | some x => exact Src.ofSlice W Tryz.underlying54 x 0 k [] (by simp) (fun j u hu => by simp at hu) (fun u hu => by cases hu)
  · have hpos : 0 < ys.length := List.length_pos_iff.2 e
    obtain ⟨_, src⟩ := src
    rcases src with src | ⟨b, off, rfl, hb, hx⟩
    · omega
    obtain ⟨v', W', h1, h2, h3, h4⟩ := pushSe h ys hm ty b off k hx hbase
    obtain ⟨a', c', rfl, -⟩ := h2.form
    exact ⟨a', c', W', h1, h2, h3, h4⟩
theorem copySe {W : World} {base : Nat} {v : Value} (h : RowS W base v []) (ys : List S5) (hm : ys.length ≤ 1048576) (ty : TypeId) (a : Option Addr) (k : Nat) (src : Sl W W.heap.size a ys.length ys) (hbase : base ≤ W.heap.size) :
    ∃ a' c' W', (Builtin.append_ #[54, 54] ty #[v, .slice a ys.length k]).run Tryz.prog W = .ok (.slice a' ys.length c') W' ∧ RowS W' base (.slice a' ys.length c') ys ∧ W.grownBy W' v.ownBlock :=
  let ⟨a', c', W', h1, h2, h3, _⟩ := pushSeAny h ys (by simpa using hm) ty a k src hbase
  ⟨a', c', W', h1, h2, h3⟩
set_option maxRecDepth 100000 in
set_option maxHeartbeats 8000000 in
theorem l7Copy_any (w : World) (v : TV) (t : T7) (hr : t.reads.length ≤ 1048576) (hss : t.sets.length ≤ 1048576) (h : SlT w v t) :
    Calls Tryz.prog 83 #[v.val t] w (OAns w t) := by
  obtain ⟨ar, cr, ah, ch⟩ := v
  simp only [TV.val]
  obtain ⟨W1, hW1⟩ : ∃ W1, W1 = w.alloc (.cells #[.int .i64 t.id, .int .i64 t.home, .int .i64 t.phase, .int .i64 t.count, .slice ar t.reads.length cr, .slice ah t.sets.length ch, .int .i64 t.stamp] 56) := ⟨_, rfl⟩
  have z1 : W1.heap.size = w.heap.size + 1 := by rw [hW1]; simp
  have x1 : BT W1 w.heap.size ⟨ar, cr, ah, ch⟩ t := by rw [hW1]; exact BT.box w ⟨ar, cr, ah, ch⟩ t _
  have b1 : Below w.heap.size w W1 := by rw [hW1]; exact (Below.refl _ _).alloc (Nat.le_refl _) _
  obtain ⟨W, hW⟩ : ∃ W2, W2 = W1.alloc (.cells #[.int .i64 0, .int .i64 0, .int .i64 0, .int .i64 0, .slice none 0 0, .slice none 0 0, .int .i64 0] 56) := ⟨_, rfl⟩
  have b2 : Below W1.heap.size W1 W := by rw [hW]; exact (Below.refl _ _).alloc (Nat.le_refl _) _
  have yR : BT W (w.heap.size + 1) ⟨none, 0, none, 0⟩ ⟨0, 0, 0, 0, [], [], 0⟩ := by rw [hW, ← z1]; exact BT.zero W1 _
  have sW : W.heap.size = w.heap.size + 2 := by rw [hW]; simp [z1]
  have yA : BT W w.heap.size ⟨ar, cr, ah, ch⟩ t := x1.later b2
  have bW : Below w.heap.size w W := b1.trans (b2.mono b1.size)
  have bV1 : Below W.heap.size W (W.alloc (.cells #[] 106)) := (Below.refl _ _).alloc (Nat.le_refl _) _
  obtain ⟨a1, c1, Y1, run1, row1, gr1⟩ := copyNo (RowN.made W) t.reads hr 53 ar cr ((h.later (bW.trans (bV1.mono bW.size))).r) bV1.size
  have bY1 : Below W.heap.size W Y1 := bV1.grown gr1 bV1.size (fun q e => by cases e; exact Nat.le_refl _)
  have yA1 : BT Y1 w.heap.size ⟨ar, cr, ah, ch⟩ t := yA.later bY1
  have yR1 := yR.later bY1
  have yA2 : BT (Y1.setCell ⟨w.heap.size, 4, none⟩ (.slice a1 t.reads.length c1)) w.heap.size ⟨a1, c1, ah, ch⟩ t := yA1.set4 a1 c1 t.reads
  have yR2 := yR1.far (p := ⟨w.heap.size, 4, none⟩) (by dsimp only; omega) (.slice a1 t.reads.length c1)
  have bX1 : Below w.heap.size w (Y1.setCell ⟨w.heap.size, 4, none⟩ (.slice a1 t.reads.length c1)) := (bW.trans (bY1.mono bW.size)).setCell (p := ⟨w.heap.size, 4, none⟩) (Nat.le_refl _) _
  have row1' : RowN (Y1.setCell ⟨w.heap.size, 4, none⟩ (.slice a1 t.reads.length c1)) W.heap.size (.slice a1 t.reads.length c1) t.reads := row1.keep (fun q hq _ _ => Below.heap_setCell _ _ _ _ (by show q ≠ w.heap.size; omega))
  have zX1 : (Y1.setCell ⟨w.heap.size, 4, none⟩ (.slice a1 t.reads.length c1)).heap.size = Y1.heap.size := by simp [World.setCell]
  have bV2 : Below (Y1.setCell ⟨w.heap.size, 4, none⟩ (.slice a1 t.reads.length c1)).heap.size (Y1.setCell ⟨w.heap.size, 4, none⟩ (.slice a1 t.reads.length c1)) ((Y1.setCell ⟨w.heap.size, 4, none⟩ (.slice a1 t.reads.length c1)).alloc (.cells #[] 109)) := (Below.refl _ _).alloc (Nat.le_refl _) _
  obtain ⟨a2, c2, Y2, run2, row2, gr2⟩ := copySe (RowS.made (Y1.setCell ⟨w.heap.size, 4, none⟩ (.slice a1 t.reads.length c1))) t.sets hss 54 ah ch ((h.later (bX1.trans (bV2.mono bX1.size))).s) bV2.size
  have bY2 : Below (Y1.setCell ⟨w.heap.size, 4, none⟩ (.slice a1 t.reads.length c1)).heap.size (Y1.setCell ⟨w.heap.size, 4, none⟩ (.slice a1 t.reads.length c1)) Y2 := bV2.grown gr2 bV2.size (fun q e => by cases e; exact Nat.le_refl _)
  have yA3 : BT Y2 w.heap.size ⟨a1, c1, ah, ch⟩ t := yA2.later bY2
  have yR3 := yR2.later bY2
  have yA4 : BT (Y2.setCell ⟨w.heap.size, 5, none⟩ (.slice a2 t.sets.length c2)) w.heap.size ⟨a1, c1, a2, c2⟩ t := yA3.set5 a2 c2 t.sets
  have yR4 := yR3.far (p := ⟨w.heap.size, 5, none⟩) (by dsimp only; omega) (.slice a2 t.sets.length c2)
  have bX2 : Below w.heap.size w (Y2.setCell ⟨w.heap.size, 5, none⟩ (.slice a2 t.sets.length c2)) := (bX1.trans (bY2.mono bX1.size)).setCell (p := ⟨w.heap.size, 5, none⟩) (Nat.le_refl _) _
  have row1'' : RowN (Y2.setCell ⟨w.heap.size, 5, none⟩ (.slice a2 t.sets.length c2)) W.heap.size (.slice a1 t.reads.length c1) t.reads := (row1'.later bY2).keep (fun q hq _ _ => Below.heap_setCell _ _ _ _ (by show q ≠ w.heap.size; omega))
  have hs1 : W.heap.size ≤ (Y1.setCell ⟨w.heap.size, 4, none⟩ (.slice a1 t.reads.length c1)).heap.size := by rw [zX1]; exact bY1.size
  have row2' : RowS (Y2.setCell ⟨w.heap.size, 5, none⟩ (.slice a2 t.sets.length c2)) (Y1.setCell ⟨w.heap.size, 4, none⟩ (.slice a1 t.reads.length c1)).heap.size (.slice a2 t.sets.length c2) t.sets := row2.keep (fun q hq _ _ => Below.heap_setCell _ _ _ _ (by show q ≠ w.heap.size; omega))
  have yR5 := yR4.put ⟨a1, c1, a2, c2⟩ t
  have p4 := yA.c4
  have k4 := yA1.c4
  have k4f := yA1.fz 4
  have p5 := (yA2.later bV2).c5
  have k5 := yA3.c5
  have k5f := yA3.fz 5
  dsimp only at p4 k4 p5 k5
  obtain ⟨o0, o1, o2, o3, o4, o5, o6, -, -⟩ := yA4
  have KR := yR4
  have hlt1 : ∀ q, (Value.slice a1 t.reads.length c1).ownBlock = some q → W.heap.size ≤ q ∧ q < (Y1.setCell ⟨w.heap.size, 4, none⟩ (.slice a1 t.reads.length c1)).heap.size := fun q e => row1'.lt e
  have KO : OT (Y2.setCell ⟨w.heap.size, 5, none⟩ (.slice a2 t.sets.length c2)) w.heap.size ⟨a1, c1, a2, c2⟩ t (fun q => (Value.slice a1 t.reads.length c1).ownBlock = some q) (fun q => (Value.slice a2 t.sets.length c2).ownBlock = some q) := by
    obtain ⟨_, _, e1, o1⟩ := row1''.form
    obtain ⟨_, _, e2, o2⟩ := row2'.form
    cases e1; cases e2
    exact ⟨o1, o2, fun q h1 h2 => by have := (hlt1 q h1).2; have := (row2'.lt h2).1; omega, fun q h1 => ⟨by have := (row1''.lt h1).1; omega, (row1''.lt h1).2⟩, fun q h1 => ⟨by have := (row2'.lt h1).1; omega, (row2'.lt h1).2⟩⟩
  have KH : Hid (OT (Y2.setCell ⟨w.heap.size, 5, none⟩ (.slice a2 t.sets.length c2)) w.heap.size ⟨a1, c1, a2, c2⟩ t (fun q => (Value.slice a1 t.reads.length c1).ownBlock = some q) (fun q => (Value.slice a2 t.sets.length c2).ownBlock = some q) ∧ Below w.heap.size w (Y2.setCell ⟨w.heap.size, 5, none⟩ (.slice a2 t.sets.length c2)) ∧ (∀ q, OfT (fun q => (Value.slice a1 t.reads.length c1).ownBlock = some q) (fun q => (Value.slice a2 t.sets.length c2).ownBlock = some q) q → w.heap.size + 2 ≤ q)) := ⟨KO, bX2, fun q hq => by
    rcases hq with hq | hq
    · have := (row1''.lt hq).1; omega
    · have := (row2'.lt hq).1; omega⟩
  simp only [putT] at yR5
  obtain ⟨u0, u1, u2, u3, u4, u5, u6, -, -⟩ := yR5
  have KX : Hid (((Y2.setCell ⟨w.heap.size, 5, none⟩ (.slice a2 t.sets.length c2)).cell? ⟨w.heap.size, 0, none⟩ = some (.int .i64 t.id) ∧ (Y2.setCell ⟨w.heap.size, 5, none⟩ (.slice a2 t.sets.length c2)).cell? ⟨w.heap.size, 1, none⟩ = some (.int .i64 t.home) ∧ (Y2.setCell ⟨w.heap.size, 5, none⟩ (.slice a2 t.sets.length c2)).cell? ⟨w.heap.size, 2, none⟩ = some (.int .i64 t.phase) ∧ (Y2.setCell ⟨w.heap.size, 5, none⟩ (.slice a2 t.sets.length c2)).cell? ⟨w.heap.size, 3, none⟩ = some (.int .i64 t.count) ∧ (Y2.setCell ⟨w.heap.size, 5, none⟩ (.slice a2 t.sets.length c2)).cell? ⟨w.heap.size, 4, none⟩ = some (.slice a1 t.reads.length c1) ∧ (Y2.setCell ⟨w.heap.size, 5, none⟩ (.slice a2 t.sets.length c2)).cell? ⟨w.heap.size, 5, none⟩ = some (.slice a2 t.sets.length c2) ∧ (Y2.setCell ⟨w.heap.size, 5, none⟩ (.slice a2 t.sets.length c2)).cell? ⟨w.heap.size, 6, none⟩ = some (.int .i64 t.stamp)) ∧ BT (Y2.setCell ⟨w.heap.size, 5, none⟩ (.slice a2 t.sets.length c2)) (w.heap.size + 1) ⟨none, 0, none, 0⟩ ⟨0, 0, 0, 0, [], [], 0⟩) := ⟨⟨o0, o1, o2, o3, o4, o5, o6⟩, KR⟩
  have KU := hidOf (And.intro u0 (And.intro u1 (And.intro u2 (And.intro u3 (And.intro u4 (And.intro u5 u6))))))
  have K1 := hidOf (And.intro k4 (And.intro k4f p5))
  have K2 := hidOf (And.intro k5 k5f)
  have R1 := hidOf run1
  have R2 := hidOf run2
  rw [hW1] at hW
  have sW2 : W.heap.size = w.heap.size + 1 + 1 := by omega
  clear sW
  clear hW1 x1 b1 b2 z1 yA yR bW bV1 bY1 row1 gr1 yA1 yR1 yA2 yR2 bX1 row1' bV2 row2 gr2 bY2 yA3 yR3 bX2 row1'' row2' hs1 hlt1 h KO KR o0 o1 o2 o3 o4 o5 o6 u0 u1 u2 u3 u4 u5 u6 k4 k4f p5 k5 k5f run1 run2
  go_enter Tryz.func83, Tryz.ntmps83
  have r1 := R1.out
  have r2 := R2.out
  rw [sW2] at r1
  rw [zX1] at r2
  rw [hW] at r1
  obtain ⟨k4, k4f, p5⟩ := K1.out
  obtain ⟨k5, k5f⟩ := K2.out
  obtain ⟨⟨o0, o1, o2, o3, o4, o5, o6⟩, ⟨r0, r1', r2', r3, r4, r5, r6, fr, -⟩⟩ := KX.out
  have f0 := fr 0
  have f1 := fr 1
  have f2 := fr 2
  have f3 := fr 3
  have f4 := fr 4
  have f5 := fr 5
  have f6 := fr 6
  clear fr K1 K2 KX R1 R2 hW p4 zX1 sW2
  go_wp2_with (first | (at_builtin; refine append_known _ rfl (.tmp 3) (.tmp 5) 53 rfl _ _ _ _ rfl rfl r1 ?_) | (at_builtin; refine append_known _ rfl (.tmp 8) (.tmp 10) 54 rfl _ _ _ _ rfl rfl r2 ?_))
  obtain ⟨u0, u1, u2, u3, u4, u5, u6⟩ := KU.out
  refine bodyPost_ret (v := .agg #[.int .i64 t.id, .int .i64 t.home, .int .i64 t.phase, .int .i64 t.count, .slice a1 t.reads.length c1, .slice a2 t.sets.length c2, .int .i64 t.stamp]) (by simp [results, Tryz.results83, go_sem, u0, u1, u2, u3, u4, u5, u6]) rfl ?_
  obtain ⟨ot, bX, q2⟩ := KH.out
  refine ⟨a1, c1, a2, c2, fun q => (Value.slice a1 t.reads.length c1).ownBlock = some q, fun q => (Value.slice a2 t.sets.length c2).ownBlock = some q, rfl, ?_, ?_⟩
  · exact ot.keep (by simp [World.setCell]) (fun q _ hq => putT_block (s := w.heap.size + 1) (v := ⟨a1, c1, a2, c2⟩) (t := t) (by have := q2 q hq; omega))
  · exact putT_below (s := w.heap.size + 1) (v := ⟨a1, c1, a2, c2⟩) (t := t) bX (by omega)
end Go.Proofs.YtnhjgomfkfehgaaGreatDoor.tx
namespace Go.Proofs.YtnhjgomfkfehgaaGreatDoor
open Go.RowKit
open Go.Sort (grow)
def Sp (w : World) (A : List Value) (b o : Nat) (cs : List Value) (X : World) : Prop := Bx X w.heap.size A ∧ At X b o cs ∧ b < w.heap.size
theorem Sp.of {w : World} {A : List Value} {b o : Nat} {cs : List Value} {X Y : World} (h : Sp w A b o cs X) (hs : X.heap.size ≤ Y.heap.size) (hk : ∀ q, q < w.heap.size + 3 → Y.heap[q]? = X.heap[q]?) : Sp w A b o cs Y := ⟨h.1.of_block (hk _ (by omega)) hs, h.2.1.of_block (hk b (by have := h.2.2; omega)), h.2.2⟩
theorem Sp.later {w : World} {A : List Value} {b o : Nat} {cs : List Value} {X Y : World} (h : Sp w A b o cs X) (hb : Below X.heap.size X Y) : Sp w A b o cs Y := ⟨h.1.later hb, h.2.1.of_block (hb.block b (by have := h.2.2; have := h.1.2.2; omega)), h.2.2⟩
set_option maxRecDepth 100000 in
set_option maxHeartbeats 2500000 in
theorem l8Copy_any (w : World) (a1 : Option Addr) (c1 : Nat) (a2 : Option Addr) (c2 : Nat) (a3 : Option Addr) (c3 : Nat) (k : C6) (hk : clusterB k = true) (h : KCl.Rd w a1 c1 a2 c2 a3 c3 k) :
    Calls Tryz.prog 33 #[.agg #[.int .i64 k.config, .int .i64 k.clock, .slice a1 k.places.length c1, .slice a2 k.machines.length c2, .slice a3 k.txs.length c3, .bool k.lost]] w (ClAns w k) := by
  have H : Hid (CSm k ∧ KCl.Rd w a1 c1 a2 c2 a3 c3 k) := ⟨CSm.of hk, h⟩
  clear hk h
  obtain ⟨W0, hW0⟩ : ∃ X, X = ((w.alloc (.cells #[.int .i64 k.config, .int .i64 k.clock, .slice a1 k.places.length c1, .slice a2 k.machines.length c2, .slice a3 k.txs.length c3, .bool k.lost] 32)).alloc (.cells #[.int .i64 0, .int .i64 0, .slice none 0 0, .slice none 0 0, .slice none 0 0, .bool false] 32)).alloc (.cells #[.int .i64 k.config, .int .i64 k.clock, .slice none 0 0, .slice none 0 0, .slice none 0 0, .bool k.lost] 32) := ⟨_, rfl⟩
  have S0 : Hid (CSt w [.int .i64 k.config, .int .i64 k.clock, .slice a1 k.places.length c1, .slice a2 k.machines.length c2, .slice a3 k.txs.length c3, .bool k.lost] [.int .i64 0, .int .i64 0, .slice none 0 0, .slice none 0 0, .slice none 0 0, .bool false] k W0 (.slice none 0 0) (.slice none 0 0) (.slice none 0 0) [] gnone [] gnone [] gnone) := by
    obtain ⟨U1, hU1⟩ : ∃ X, X = w.alloc (.cells #[.int .i64 k.config, .int .i64 k.clock, .slice a1 k.places.length c1, .slice a2 k.machines.length c2, .slice a3 k.txs.length c3, .bool k.lost] 32) := ⟨_, rfl⟩
    have x1 : Bx U1 w.heap.size [.int .i64 k.config, .int .i64 k.clock, .slice a1 k.places.length c1, .slice a2 k.machines.length c2, .slice a3 k.txs.length c3, .bool k.lost] := by rw [hU1]; exact Bx.made w [.int .i64 k.config, .int .i64 k.clock, .slice a1 k.places.length c1, .slice a2 k.machines.length c2, .slice a3 k.txs.length c3, .bool k.lost] _
    have b1 : Below w.heap.size w U1 := by rw [hU1]; exact (Below.refl _ _).alloc (Nat.le_refl _) _
    have z1 : U1.heap.size = w.heap.size + 1 := by rw [hU1]; simp
    obtain ⟨U2, hU2⟩ : ∃ X, X = U1.alloc (.cells #[.int .i64 0, .int .i64 0, .slice none 0 0, .slice none 0 0, .slice none 0 0, .bool false] 32) := ⟨_, rfl⟩
    have x2 : Bx U2 U1.heap.size [.int .i64 0, .int .i64 0, .slice none 0 0, .slice none 0 0, .slice none 0 0, .bool false] := by rw [hU2]; exact Bx.made U1 [.int .i64 0, .int .i64 0, .slice none 0 0, .slice none 0 0, .slice none 0 0, .bool false] _
    have b2 : Below U1.heap.size U1 U2 := by rw [hU2]; exact (Below.refl _ _).alloc (Nat.le_refl _) _
    have z2 : U2.heap.size = U1.heap.size + 1 := by rw [hU2]; simp
    have x3 : Bx W0 U2.heap.size [.int .i64 k.config, .int .i64 k.clock, .slice none 0 0, .slice none 0 0, .slice none 0 0, .bool k.lost] := by rw [hW0, hU2, hU1]; exact Bx.made _ [.int .i64 k.config, .int .i64 k.clock, .slice none 0 0, .slice none 0 0, .slice none 0 0, .bool k.lost] _
    have b3 : Below U2.heap.size U2 W0 := by rw [hW0, hU2, hU1]; exact (Below.refl _ _).alloc (Nat.le_refl _) _
    rw [show U2.heap.size = w.heap.size + 2 by omega] at x3
    rw [show U1.heap.size = w.heap.size + 1 by omega] at x2
    exact ⟨(x1.later b2).later b3, x2.later b3, x3, CL3.nil _ _ _, bstep (bstep b1 b2) b3⟩
  have p2 := S0.out.arg.1 2 _ rfl
  rw [hW0] at p2
  go_enter Tryz.func33, Tryz.ntmps33
  go_wp2
  rw [← hW0]
  rw [← hW0] at p2
  clear hW0 p2
  go_loopw [4] (fun v wr => ∃ (j : Nat) (bP : Option Addr) (dP : Nat) (ps : List ((Nat × Nat) × List Int)) (gp : Nat → Nat → Prop), j ≤ k.places.length ∧ v = .int .i64 j ∧ ps.map (·.2) = k.places.take j ∧ CSt w [.int .i64 k.config, .int .i64 k.clock, .slice a1 k.places.length c1, .slice a2 k.machines.length c2, .slice a3 k.txs.length c3, .bool k.lost] [.int .i64 0, .int .i64 0, .slice none 0 0, .slice none 0 0, .slice none 0 0, .bool false] k wr (.slice bP j dP) (.slice none 0 0) (.slice none 0 0) ps gp [] gnone [] gnone) (fun v _ => k.places.length - (intOf v).toNat)
  case atStart => exact ⟨0, none, 0, [], gnone, Nat.zero_le _, rfl, by simp, S0.out⟩
  case round =>
    obtain ⟨j, bP, dP, ps, gp, hj, rfl, hmp, hst⟩ := hrel
    have hln : k.places.length ≤ 1000 := by have := H.out.1.p; omega
    have p2 := hst.arg.1 2 _ rfl
    have p3 := hst.arg.1 3 _ rfl
    have p4 := hst.arg.1 4 _ rfl
    by_cases hlt : j < k.places.length
    · skip
      have hat := atP_of hlt
      have hlp : ps.length = j := by have := congrArg List.length hmp; simpa [Nat.min_eq_left hj] using this
      have hrd := H.out.2.later hst.bel
      obtain ⟨_, hsl⟩ := hrd.p
      rcases hsl with h0 | ⟨b, off, rfl, hb, hsl⟩
      · omega
      obtain ⟨z0, z1, e0, ⟨_, hzs⟩, hcp⟩ := hsl j _ hat
      obtain ⟨hz1, hz3⟩ := H.out.1.ps _ (List.mem_of_getElem? hat)
      rcases hzs with h0 | ⟨zb, zo, rfl, hzb, hzn⟩
      · omega
      have es0 := e0
      clear hsl hrd
      have hel : At wr b (off + j) [.slice (some ⟨zb, zo, none⟩) (atP k.places j).length z1] := fun i u hu => by
        rcases i with _ | i
        · simp at hu; subst hu; exact e0
        · simp at hu
      have hbw : b < w.heap.size := by
        rcases H.out.2.p.2 with h0 | ⟨b', off', e', hb', _⟩
        · omega
        · cases e'; exact hb'
      have hSX : (fun X : World => Bx X (w.heap.size + 2) [.int .i64 k.config, .int .i64 k.clock, (.slice bP j dP), (.slice none 0 0), (.slice none 0 0), .bool k.lost] ∧ Sp w [.int .i64 k.config, .int .i64 k.clock, .slice (some ⟨b, off, none⟩) k.places.length c1, .slice a2 k.machines.length c2, .slice a3 k.txs.length c3, .bool k.lost] b (off + j) [.slice (some ⟨zb, zo, none⟩) (atP k.places j).length z1] X) wr.drew := ⟨hst.own.later (Below.refl _ _).drew, ⟨hst.arg.later (Below.refl _ _).drew, hel.of_block rfl, hbw⟩⟩
      have HD : Hid (Below wr.heap.size wr wr.drew) := (Below.refl _ _).drew
      have jn : (j : Int) < (k.places.length : Int) := by omega
      have HN : Hid (NumsAt wr.drew zb zo (atP k.places j) ∧ zb < wr.drew.heap.size) := ⟨hzn.below ((Below.refl _ _).drew) hzb, hzb⟩
      have HS := hidOf hst
      have HM : Hid (ps.map (·.2) = k.places.take j ∧ ps.length = j ∧ k.places[j]? = some (atP k.places j)) := ⟨hmp, hlp, hat⟩
      clear hst hmp hlp hat hel hbw hzn hzb hcp e0 es0
      go_wp2_with fail
      refine wp_region_until 14 (fun X : World => Bx X (w.heap.size + 2) [.int .i64 k.config, .int .i64 k.clock, (.slice bP j dP), (.slice none 0 0), (.slice none 0 0), .bool k.lost] ∧ Sp w [.int .i64 k.config, .int .i64 k.clock, .slice (some ⟨b, off, none⟩) k.places.length c1, .slice a2 k.machines.length c2, .slice a3 k.txs.length c3, .bool k.lost] b (off + j) [.slice (some ⟨zb, zo, none⟩) (atP k.places j).length z1] X) (by kernel_rfl) ?_
      generalize wr.drew = XD at *
      refine wpUntil_take (i := 0) (v := ?_) rfl (by kernel_rfl) (fun _ _ _ h => h) (Or.inl ⟨by rfl, ?_⟩) hSX ?_
      rotate_left
      · (intro w hSw; go_simp; first | done | with_reducible rfl)
      simp only [Act.put]
      refine wpUntil_take (i := 1) (v := ?_) rfl (by kernel_rfl) (fun _ _ _ h => h) (Or.inl ⟨by rfl, ?_⟩) hSX ?_
      rotate_left
      · (intro w hSw; have q := hSw.1.1 2 _ rfl; go_simp; first | done | with_reducible rfl | exact q)
      simp only [Act.put]
      refine wpUntil_take (i := 3) (v := ?_) rfl (by kernel_rfl) (fun _ _ _ h => h) (Or.inl ⟨by rfl, ?_⟩) hSX ?_
      rotate_left
      · (intro w hSw; go_simp; first | done | with_reducible rfl)
      simp only [Act.put]
      refine wpUntil_take (i := 4) (v := ?_) rfl (by kernel_rfl) (fun _ _ _ h => h) (Or.inl ⟨by rfl, ?_⟩) hSX ?_
      rotate_left
      · (intro w hSw; have q := hSw.2.1.1 2 _ rfl; go_simp; first | done | with_reducible rfl | exact q)
      simp only [Act.put]
      refine wpUntil_take (i := 5) (v := ?_) rfl (by kernel_rfl) (fun _ _ _ h => h) (Or.inl ⟨by rfl, ?_⟩) hSX ?_
      rotate_left
      · (intro w hSw; go_simp; first | done | with_reducible rfl)
      simp only [Act.put]
      refine wpUntil_take (i := 6) (v := ?_) rfl (by kernel_rfl) (fun _ _ _ h => h) (Or.inl ⟨by rfl, ?_⟩) hSX ?_
      rotate_left
      · (intro w hSw; go_simp; first | done | with_reducible rfl | (rw [if_pos (by omega)]))
      simp only [Act.put]
      refine wpUntil_take (i := 7) (v := ?_) rfl (by kernel_rfl) (fun _ _ _ h => h) (Or.inl ⟨by rfl, ?_⟩) hSX ?_
      rotate_left
      · (intro w hSw; go_simp; first | done | with_reducible rfl)
      simp only [Act.put]
      refine wpUntil_take (i := 8) (v := ?_) rfl (by kernel_rfl) (fun _ _ _ h => h) (Or.inl ⟨by rfl, ?_⟩) hSX ?_
      rotate_left
      · (intro w hSw; have q0 : w.cell? ⟨b, off + j, none⟩ = some (.slice (some ⟨zb, zo, none⟩) (atP k.places j).length z1) := hSw.2.2.1 0 _ rfl; go_simp; first | done | with_reducible rfl | rfl)
      simp only [Act.put]
      refine wpUntil_ready (rs := [2]) (by kernel_rfl) (by simp) ?_
      refine AllU.cons rfl (fun K hK => ?_) AllU.nil
      go_simp
      obtain ⟨XE, hXE⟩ : ∃ X, X = XD.alloc (.cells #[] 2) := ⟨_, rfl⟩
      have bE : Below XD.heap.size XD XE := by rw [hXE]; exact (Below.refl _ _).alloc (Nat.le_refl _) _
      have hSE : (fun X : World => Bx X (w.heap.size + 2) [.int .i64 k.config, .int .i64 k.clock, (.slice bP j dP), (.slice none 0 0), (.slice none 0 0), .bool k.lost] ∧ Sp w [.int .i64 k.config, .int .i64 k.clock, .slice (some ⟨b, off, none⟩) k.places.length c1, .slice a2 k.machines.length c2, .slice a3 k.txs.length c3, .bool k.lost] b (off + j) [.slice (some ⟨zb, zo, none⟩) (atP k.places j).length z1] X) XE := ⟨hSX.1.later bE, hSX.2.later bE⟩
      obtain ⟨v2, X2, hrA, hoA, hgA, hlA⟩ := on_append XE XD.heap.size _ [] (atP k.places j) zb zo z1 60 (by rw [hXE]; exact ON.empty XD) (HN.out.1.below bE HN.out.2) (by simp; omega) bE.size
      rw [List.nil_append] at hoA
      have b2 : Below XD.heap.size XD X2 := bE.grown hgA bE.size (fun k h => by cases h; exact Nat.le_refl _)
      obtain ⟨q, cp, rfl⟩ : ∃ g cp, v2 = .slice (some ⟨g, 0, none⟩) (atP k.places j).length cp := by
        rcases hoA.form with ⟨rfl, _⟩ | ⟨g, cp, e, _⟩
        · rcases hlA with h | h <;> cases h
        · exact ⟨g, cp, e⟩
      rw [← hXE]
      refine hK.out _ _ (fun _ => hSE) ?_
      clear hK K bE hgA hlA hXE
      refine wpUntil_ready (rs := [9]) (by kernel_rfl) (by simp) ?_
      refine AllU.cons rfl (fun K hK => ?_) AllU.nil
      refine step_known _ rfl (.tmp 23) (.tmp 29) 60 rfl _ _ _ _ (by first | rfl | simp [Act.eval, Act.put]) (by first | rfl | simp [Act.eval, Act.put]) hrA ?_
      clear hrA
      have hO : KPk.Ow X2 wr.heap.size (q, cp) (atP k.places j) (fun x => x = q) := KPk.low hoA.kp HD.out.size
      clear hoA hSE HN
      have HD' : Hid (Below wr.heap.size wr XD ∧ True) := ⟨HD.out, trivial⟩
      have HD := HD'
      clear HD'
      have bX2 : Below wr.heap.size wr X2 := bstep HD.out.1 b2
      have hS2 : (fun X : World => Bx X (w.heap.size + 2) [.int .i64 k.config, .int .i64 k.clock, (.slice bP j dP), (.slice none 0 0), (.slice none 0 0), .bool k.lost] ∧ Sp w [.int .i64 k.config, .int .i64 k.clock, .slice (some ⟨b, off, none⟩) k.places.length c1, .slice a2 k.machines.length c2, .slice a3 k.txs.length c3, .bool k.lost] b (off + j) [.slice (some ⟨zb, zo, none⟩) (atP k.places j).length z1] X) X2 := ⟨hSX.1.later b2, hSX.2.later b2⟩
      obtain ⟨X3, hX3⟩ : ∃ X, X = X2.alloc (.cells #[(.slice (some ⟨q, 0, none⟩) (atP k.places j).length cp)] 127) := ⟨_, rfl⟩
      have b3 : Below X2.heap.size X2 X3 := by rw [hX3]; exact (Below.refl _ _).alloc (Nat.le_refl _) _
      have x3 : Bx X3 X2.heap.size [(.slice (some ⟨q, 0, none⟩) (atP k.places j).length cp)] := by rw [hX3]; exact Bx.made X2 [(.slice (some ⟨q, 0, none⟩) (atP k.places j).length cp)] _
      have hS3 : (fun X : World => Bx X (w.heap.size + 2) [.int .i64 k.config, .int .i64 k.clock, (.slice bP j dP), (.slice none 0 0), (.slice none 0 0), .bool k.lost] ∧ Sp w [.int .i64 k.config, .int .i64 k.clock, .slice (some ⟨b, off, none⟩) k.places.length c1, .slice a2 k.machines.length c2, .slice a3 k.txs.length c3, .bool k.lost] b (off + j) [.slice (some ⟨zb, zo, none⟩) (atP k.places j).length z1] X) X3 := ⟨hS2.1.later b3, hS2.2.later b3⟩
      obtain ⟨v', Y, hr, hcs, hob, hfar, hsz, a', c', rfl⟩ := HS.out.pushP (bstep bX2 b3) (q, cp) (atP k.places j) (fun x => x = q) X2.heap.size (by rw [HM.out.2.1]; omega) 28 x3.1 (KPk.keep hO b3.size (fun q hq => b3.block q (KPk.of hO hq).2))
      have hS4 : (fun X : World => Bx X (w.heap.size + 2) [.int .i64 k.config, .int .i64 k.clock, (.slice bP j dP), (.slice none 0 0), (.slice none 0 0), .bool k.lost] ∧ Sp w [.int .i64 k.config, .int .i64 k.clock, .slice (some ⟨b, off, none⟩) k.places.length c1, .slice a2 k.machines.length c2, .slice a3 k.txs.length c3, .bool k.lost] b (off + j) [.slice (some ⟨zb, zo, none⟩) (atP k.places j).length z1] X) Y := ⟨hob, hS3.2.of hsz (fun q hq => hfar q (.inl hq))⟩
      have HE : Hid ((ps ++ [((q, cp), atP k.places j)]).map (·.2) = k.places.take (j + 1)) := by unfold Hid; rw [List.map_append, HM.out.1]; exact take_snoc HM.out.2.2
      rw [HM.out.2.1] at hr hcs
      have KE := hidOf hcs
      refine hK.out _ _ (fun _ => hS2) ?_
      clear hK K b2 bX2 b3 x3 hcs hob hfar hsz hO hSX
      refine wpUntil_take (i := 10) (v := ?_) rfl (by kernel_rfl) (fun _ _ _ h => h) (Or.inl ⟨by rfl, ?_⟩) hS2 ?_
      rotate_left
      · (intro w hSw; go_simp; first | done | with_reducible rfl)
      simp only [Act.put]
      refine wpUntil_ready (rs := [11]) (by kernel_rfl) (by simp) ?_
      refine AllU.cons rfl (fun K hK => ?_) AllU.nil
      go_simp
      rw [← hX3]
      refine hK.out _ _ (fun _ => hS3) ?_
      clear hK K hS2
      refine wpUntil_ready (rs := [12]) (by kernel_rfl) (by simp) ?_
      refine AllU.cons rfl (fun K hK => ?_) AllU.nil
      refine step_known _ rfl (.tmp 22) (.tmp 32) 28 rfl _ _ _ _ (by first | rfl | simp [Act.eval, Act.put]) (by first | rfl | simp [Act.eval, Act.put]) hr ?_
      refine hK.out _ _ (fun _ => hS4) ?_
      clear hK K hr hS3 hX3
      simp only [Act.put]
      refine wpUntil_ready (rs := [13]) (by kernel_rfl) (by simp) ?_
      refine AllU.cons rfl (fun K hK => ?_) AllU.nil
      go_simp
      refine hK.out _ _ (fun _ => hS4) ?_
      clear hK K
      refine wpUntil_ready (rs := [14]) (by kernel_rfl) (by simp) ?_
      refine AllU.cons rfl (fun K hK => ?_) AllU.nil
      have o2 := hS4.1.1 2 _ rfl
      have fo2 := hS4.1.2.1 2
      go_simp
      refine hK.out _ _ (fun h => absurd rfl h) ?_
      clear hK K
      refine wpUntil_done (by kernel_rfl) ?_ _
      go_wp2
      exact ⟨⟨j + 1, a', c', _, _, by omega, by simp, HE.out, KE.out⟩, by simp [intOf]; omega⟩
    · obtain rfl : k.places.length = j := by omega
      have hd : decide ((k.places.length : Int) < (k.places.length : Int)) = false := by simp
      rw [List.take_length] at hmp
      have EP : Hid (ps.map (·.2) = k.places) := hmp
      have S1 := hidOf hst
      clear hmp hst hj hlt hln
      go_wp2
      clear p2 p3 p4
      generalize wr = WP at *
      go_loopw [5] (fun v wr => ∃ (j : Nat) (bM : Option Addr) (dM : Nat) (ms : List ((MV) × M4)) (gm : Nat → Nat → Prop), j ≤ k.machines.length ∧ v = .int .i64 j ∧ ms.map (·.2) = k.machines.take j ∧ CSt w [.int .i64 k.config, .int .i64 k.clock, .slice a1 k.places.length c1, .slice a2 k.machines.length c2, .slice a3 k.txs.length c3, .bool k.lost] [.int .i64 0, .int .i64 0, .slice none 0 0, .slice none 0 0, .slice none 0 0, .bool false] k wr (.slice bP k.places.length dP) (.slice bM j dM) (.slice none 0 0) ps gp ms gm [] gnone) (fun v _ => k.machines.length - (intOf v).toNat)
      case atStart => exact ⟨0, none, 0, [], gnone, Nat.zero_le _, rfl, by simp, S1.out⟩
      case round =>
        obtain ⟨j, bM, dM, ms, gm, hj, rfl, hmp, hst⟩ := hrel
        have hln : k.machines.length ≤ 1000 := by have := H.out.1.m; omega
        have p2 := hst.arg.1 2 _ rfl
        have p3 := hst.arg.1 3 _ rfl
        have p4 := hst.arg.1 4 _ rfl
        by_cases hlt : j < k.machines.length
        · skip
          have hat := atM_of hlt
          have hlp : ms.length = j := by have := congrArg List.length hmp; simpa [Nat.min_eq_left hj] using this
          have hrd := H.out.2.later hst.bel
          rcases hrd.m with h0 | ⟨b, off, rfl, hb, hrd'⟩
          · rw [h0] at hlt; simp at hlt
          obtain ⟨⟨m0, m1, m2, m3, m4, m5⟩, hel, hsd⟩ := hrd' j _ hat
          have es0 : wr.cell? ⟨b, off + j * 4, none⟩ = some (.bool (atM k.machines j).alive) := hel 0 _ rfl
          have es1 : wr.cell? ⟨b, off + j * 4 + 1, none⟩ = some (.slice m0 (atM k.machines j).copies.length m1) := hel 1 _ rfl
          have es2 : wr.cell? ⟨b, off + j * 4 + 2, none⟩ = some (.slice m2 (atM k.machines j).log.length m3) := hel 2 _ rfl
          have es3 : wr.cell? ⟨b, off + j * 4 + 3, none⟩ = some (.slice m4 (atM k.machines j).cleared.length m5) := hel 3 _ rfl
          clear hrd' hrd hel
          have hel : At wr b (off + j * 4) [.bool (atM k.machines j).alive, .slice m0 (atM k.machines j).copies.length m1, .slice m2 (atM k.machines j).log.length m3, .slice m4 (atM k.machines j).cleared.length m5] := fun i u hu => by
            rcases i with _ | _ | _ | _ | i
            · simp at hu; subst hu; exact es0
            · simp at hu; subst hu; exact es1
            · simp at hu; subst hu; exact es2
            · simp at hu; subst hu; exact es3
            · simp at hu
          have hbw : b < w.heap.size := by
            rcases H.out.2.m with h0 | ⟨b', off', e', hb', _⟩
            · rw [h0] at hlt; simp at hlt
            · cases e'; exact hb'
          have hSX : (fun X : World => Bx X (w.heap.size + 2) [.int .i64 k.config, .int .i64 k.clock, (.slice bP k.places.length dP), (.slice bM j dM), (.slice none 0 0), .bool k.lost] ∧ Sp w [.int .i64 k.config, .int .i64 k.clock, .slice a1 k.places.length c1, .slice (some ⟨b, off, none⟩) k.machines.length c2, .slice a3 k.txs.length c3, .bool k.lost] b (off + j * 4) [.bool (atM k.machines j).alive, .slice m0 (atM k.machines j).copies.length m1, .slice m2 (atM k.machines j).log.length m3, .slice m4 (atM k.machines j).cleared.length m5] X) wr.drew := ⟨hst.own.later (Below.refl _ _).drew, ⟨hst.arg.later (Below.refl _ _).drew, hel.of_block rfl, hbw⟩⟩
          have HD : Hid (Below wr.heap.size wr wr.drew) := (Below.refl _ _).drew
          have jn : (j : Int) < (k.machines.length : Int) := by omega
          have hcl := l6Copy_any wr.drew ⟨m0, m1, m2, m3, m4, m5⟩ (atM k.machines j) (H.out.1.ms _ (List.mem_of_getElem? hat)) (SlM.later hsd (Below.refl _ _).drew)
          simp only [MV.val] at hcl
          have HS := hidOf hst
          have HM : Hid (ms.map (·.2) = k.machines.take j ∧ ms.length = j ∧ k.machines[j]? = some (atM k.machines j)) := ⟨hmp, hlp, hat⟩
          clear hst hmp hlp hat hel hbw hsd es0 es1 es2 es3
          go_wp2_with fail
          refine wp_region_until 11 (fun X : World => Bx X (w.heap.size + 2) [.int .i64 k.config, .int .i64 k.clock, (.slice bP k.places.length dP), (.slice bM j dM), (.slice none 0 0), .bool k.lost] ∧ Sp w [.int .i64 k.config, .int .i64 k.clock, .slice a1 k.places.length c1, .slice (some ⟨b, off, none⟩) k.machines.length c2, .slice a3 k.txs.length c3, .bool k.lost] b (off + j * 4) [.bool (atM k.machines j).alive, .slice m0 (atM k.machines j).copies.length m1, .slice m2 (atM k.machines j).log.length m3, .slice m4 (atM k.machines j).cleared.length m5] X) (by kernel_rfl) ?_
          generalize wr.drew = XD at *
          refine wpUntil_take (i := 0) (v := ?_) rfl (by kernel_rfl) (fun _ _ _ h => h) (Or.inl ⟨by rfl, ?_⟩) hSX ?_
          rotate_left
          · (intro w hSw; go_simp; first | done | with_reducible rfl)
          simp only [Act.put]
          refine wpUntil_take (i := 1) (v := ?_) rfl (by kernel_rfl) (fun _ _ _ h => h) (Or.inl ⟨by rfl, ?_⟩) hSX ?_
          rotate_left
          · (intro w hSw; have q := hSw.1.1 3 _ rfl; go_simp; first | done | with_reducible rfl | exact q)
          simp only [Act.put]
          refine wpUntil_take (i := 2) (v := ?_) rfl (by kernel_rfl) (fun _ _ _ h => h) (Or.inl ⟨by rfl, ?_⟩) hSX ?_
          rotate_left
          · (intro w hSw; go_simp; first | done | with_reducible rfl)
          simp only [Act.put]
          refine wpUntil_take (i := 3) (v := ?_) rfl (by kernel_rfl) (fun _ _ _ h => h) (Or.inl ⟨by rfl, ?_⟩) hSX ?_
          rotate_left
          · (intro w hSw; have q := hSw.2.1.1 3 _ rfl; go_simp; first | done | with_reducible rfl | exact q)
          simp only [Act.put]
          refine wpUntil_take (i := 4) (v := ?_) rfl (by kernel_rfl) (fun _ _ _ h => h) (Or.inl ⟨by rfl, ?_⟩) hSX ?_
          rotate_left
          · (intro w hSw; go_simp; first | done | with_reducible rfl)
          simp only [Act.put]
          refine wpUntil_take (i := 5) (v := ?_) rfl (by kernel_rfl) (fun _ _ _ h => h) (Or.inl ⟨by rfl, ?_⟩) hSX ?_
          rotate_left
          · (intro w hSw; go_simp; first | done | with_reducible rfl | (rw [if_pos (by omega)]))
          simp only [Act.put]
          refine wpUntil_take (i := 6) (v := ?_) rfl (by kernel_rfl) (fun _ _ _ h => h) (Or.inl ⟨by rfl, ?_⟩) hSX ?_
          rotate_left
          · (intro w hSw; have q0 : w.cell? ⟨b, off + j * 4, none⟩ = some (.bool (atM k.machines j).alive) := hSw.2.2.1 0 _ rfl; have q1 : w.cell? ⟨b, off + j * 4 + 1, none⟩ = some (.slice m0 (atM k.machines j).copies.length m1) := hSw.2.2.1 1 _ rfl; have q2 : w.cell? ⟨b, off + j * 4 + 2, none⟩ = some (.slice m2 (atM k.machines j).log.length m3) := hSw.2.2.1 2 _ rfl; have q3 : w.cell? ⟨b, off + j * 4 + 3, none⟩ = some (.slice m4 (atM k.machines j).cleared.length m5) := hSw.2.2.1 3 _ rfl; go_simp; first | done | with_reducible rfl | rfl)
          simp only [Act.put]
          refine wpUntil_ready (rs := [7]) (by kernel_rfl) (by simp) ?_
          refine AllU.cons rfl (fun K hK => ?_) AllU.nil
          go_simp
          refine hcl.mono ?_
          clear hcl
          rintro e X2 ⟨⟨u0, u1, u2, u3, u4, u5⟩, pp, gk, gr, rfl, hmr, b2⟩
          dsimp only
          obtain ⟨Q, hQ⟩ := MR.ow hmr
          have hO : KMk.Ow X2 wr.heap.size ⟨u0, u1, u2, u3, u4, u5⟩ (atM k.machines j) Q := KMk.low hQ (by have := HD.out.size; omega)
          clear hmr hQ
          have HD' : Hid (Below wr.heap.size wr XD ∧ True) := ⟨HD.out, trivial⟩
          have HD := HD'
          clear HD'
          have bX2 : Below wr.heap.size wr X2 := bstep HD.out.1 b2
          have hS2 : (fun X : World => Bx X (w.heap.size + 2) [.int .i64 k.config, .int .i64 k.clock, (.slice bP k.places.length dP), (.slice bM j dM), (.slice none 0 0), .bool k.lost] ∧ Sp w [.int .i64 k.config, .int .i64 k.clock, .slice a1 k.places.length c1, .slice (some ⟨b, off, none⟩) k.machines.length c2, .slice a3 k.txs.length c3, .bool k.lost] b (off + j * 4) [.bool (atM k.machines j).alive, .slice m0 (atM k.machines j).copies.length m1, .slice m2 (atM k.machines j).log.length m3, .slice m4 (atM k.machines j).cleared.length m5] X) X2 := ⟨hSX.1.later b2, hSX.2.later b2⟩
          obtain ⟨X3, hX3⟩ : ∃ X, X = X2.alloc (.cells #[(.bool (atM k.machines j).alive), (.slice u0 (atM k.machines j).copies.length u1), (.slice u2 (atM k.machines j).log.length u3), (.slice u4 (atM k.machines j).cleared.length u5)] 62) := ⟨_, rfl⟩
          have b3 : Below X2.heap.size X2 X3 := by rw [hX3]; exact (Below.refl _ _).alloc (Nat.le_refl _) _
          have x3 : Bx X3 X2.heap.size [(.bool (atM k.machines j).alive), (.slice u0 (atM k.machines j).copies.length u1), (.slice u2 (atM k.machines j).log.length u3), (.slice u4 (atM k.machines j).cleared.length u5)] := by rw [hX3]; exact Bx.made X2 [(.bool (atM k.machines j).alive), (.slice u0 (atM k.machines j).copies.length u1), (.slice u2 (atM k.machines j).log.length u3), (.slice u4 (atM k.machines j).cleared.length u5)] _
          have hS3 : (fun X : World => Bx X (w.heap.size + 2) [.int .i64 k.config, .int .i64 k.clock, (.slice bP k.places.length dP), (.slice bM j dM), (.slice none 0 0), .bool k.lost] ∧ Sp w [.int .i64 k.config, .int .i64 k.clock, .slice a1 k.places.length c1, .slice (some ⟨b, off, none⟩) k.machines.length c2, .slice a3 k.txs.length c3, .bool k.lost] b (off + j * 4) [.bool (atM k.machines j).alive, .slice m0 (atM k.machines j).copies.length m1, .slice m2 (atM k.machines j).log.length m3, .slice m4 (atM k.machines j).cleared.length m5] X) X3 := ⟨hS2.1.later b3, hS2.2.later b3⟩
          obtain ⟨v', Y, hr, hcs, hob, hfar, hsz, a', c', rfl⟩ := HS.out.pushM (bstep bX2 b3) (⟨u0, u1, u2, u3, u4, u5⟩ : MV) (atM k.machines j) Q X2.heap.size (by rw [HM.out.2.1]; omega) 29 x3.1 (KMk.keep hO b3.size (fun q hq => b3.block q (KMk.of hO hq).2))
          have hS4 : (fun X : World => Bx X (w.heap.size + 2) [.int .i64 k.config, .int .i64 k.clock, (.slice bP k.places.length dP), (.slice bM j dM), (.slice none 0 0), .bool k.lost] ∧ Sp w [.int .i64 k.config, .int .i64 k.clock, .slice a1 k.places.length c1, .slice (some ⟨b, off, none⟩) k.machines.length c2, .slice a3 k.txs.length c3, .bool k.lost] b (off + j * 4) [.bool (atM k.machines j).alive, .slice m0 (atM k.machines j).copies.length m1, .slice m2 (atM k.machines j).log.length m3, .slice m4 (atM k.machines j).cleared.length m5] X) Y := ⟨hob, hS3.2.of hsz (fun q hq => hfar q (.inl hq))⟩
          have HE : Hid ((ms ++ [((⟨u0, u1, u2, u3, u4, u5⟩ : MV), atM k.machines j)]).map (·.2) = k.machines.take (j + 1)) := by unfold Hid; rw [List.map_append, HM.out.1]; exact take_snoc HM.out.2.2
          rw [HM.out.2.1] at hr hcs
          have KE := hidOf hcs
          refine hK.out _ _ (fun _ => hS2) ?_
          clear hK K b2 bX2 b3 x3 hcs hob hfar hsz hO hSX
          refine wpUntil_ready (rs := [8]) (by kernel_rfl) (by simp) ?_
          refine AllU.cons rfl (fun K hK => ?_) AllU.nil
          go_simp
          rw [← hX3]
          refine hK.out _ _ (fun _ => hS3) ?_
          clear hK K hS2
          refine wpUntil_ready (rs := [9]) (by kernel_rfl) (by simp) ?_
          refine AllU.cons rfl (fun K hK => ?_) AllU.nil
          refine step_known _ rfl (.tmp 43) (.tmp 50) 29 rfl _ _ _ _ (by first | rfl | simp [Act.eval, Act.put]) (by first | rfl | simp [Act.eval, Act.put]) hr ?_
          refine hK.out _ _ (fun _ => hS4) ?_
          clear hK K hr hS3 hX3
          simp only [Act.put]
          refine wpUntil_ready (rs := [10]) (by kernel_rfl) (by simp) ?_
          refine AllU.cons rfl (fun K hK => ?_) AllU.nil
          go_simp
          refine hK.out _ _ (fun _ => hS4) ?_
          clear hK K
          refine wpUntil_ready (rs := [11]) (by kernel_rfl) (by simp) ?_
          refine AllU.cons rfl (fun K hK => ?_) AllU.nil
          have o3 := hS4.1.1 3 _ rfl
          have fo3 := hS4.1.2.1 3
          go_simp
          refine hK.out _ _ (fun h => absurd rfl h) ?_
          clear hK K
          refine wpUntil_done (by kernel_rfl) ?_ _
          go_wp2
          exact ⟨⟨j + 1, a', c', _, _, by omega, by simp, HE.out, KE.out⟩, by simp [intOf]; omega⟩
        · obtain rfl : k.machines.length = j := by omega
          have hd : decide ((k.machines.length : Int) < (k.machines.length : Int)) = false := by simp
          rw [List.take_length] at hmp
          have EM : Hid (ms.map (·.2) = k.machines) := hmp
          have S1 := hidOf hst
          clear hmp hst hj hlt hln
          go_wp2
          clear p2 p3 p4
          generalize wr = WM at *
          go_loopw [6] (fun v wr => ∃ (j : Nat) (bT : Option Addr) (dT : Nat) (ts : List ((tx.TV) × tx.T7)) (gt : Nat → Nat → Prop), j ≤ k.txs.length ∧ v = .int .i64 j ∧ ts.map (·.2) = k.txs.take j ∧ CSt w [.int .i64 k.config, .int .i64 k.clock, .slice a1 k.places.length c1, .slice a2 k.machines.length c2, .slice a3 k.txs.length c3, .bool k.lost] [.int .i64 0, .int .i64 0, .slice none 0 0, .slice none 0 0, .slice none 0 0, .bool false] k wr (.slice bP k.places.length dP) (.slice bM k.machines.length dM) (.slice bT j dT) ps gp ms gm ts gt) (fun v _ => k.txs.length - (intOf v).toNat)
          case atStart => exact ⟨0, none, 0, [], gnone, Nat.zero_le _, rfl, by simp, S1.out⟩
          case round =>
            obtain ⟨j, bT, dT, ts, gt, hj, rfl, hmp, hst⟩ := hrel
            have hln : k.txs.length ≤ 1000 := by have := H.out.1.t; omega
            have p2 := hst.arg.1 2 _ rfl
            have p3 := hst.arg.1 3 _ rfl
            have p4 := hst.arg.1 4 _ rfl
            by_cases hlt : j < k.txs.length
            · skip
              have hat := atT_of hlt
              have hlp : ts.length = j := by have := congrArg List.length hmp; simpa [Nat.min_eq_left hj] using this
              have hrd := H.out.2.later hst.bel
              rcases hrd.t with h0 | ⟨b, off, rfl, hb, hrd'⟩
              · rw [h0] at hlt; simp at hlt
              obtain ⟨⟨t0, t1, t2, t3⟩, hel, hsd⟩ := hrd' j _ hat
              have es0 : wr.cell? ⟨b, off + j * 7, none⟩ = some (.int .i64 (atT k.txs j).id) := hel 0 _ rfl
              have es1 : wr.cell? ⟨b, off + j * 7 + 1, none⟩ = some (.int .i64 (atT k.txs j).home) := hel 1 _ rfl
              have es2 : wr.cell? ⟨b, off + j * 7 + 2, none⟩ = some (.int .i64 (atT k.txs j).phase) := hel 2 _ rfl
              have es3 : wr.cell? ⟨b, off + j * 7 + 3, none⟩ = some (.int .i64 (atT k.txs j).count) := hel 3 _ rfl
              have es4 : wr.cell? ⟨b, off + j * 7 + 4, none⟩ = some (.slice t0 (atT k.txs j).reads.length t1) := hel 4 _ rfl
              have es5 : wr.cell? ⟨b, off + j * 7 + 5, none⟩ = some (.slice t2 (atT k.txs j).sets.length t3) := hel 5 _ rfl
              have es6 : wr.cell? ⟨b, off + j * 7 + 6, none⟩ = some (.int .i64 (atT k.txs j).stamp) := hel 6 _ rfl
              clear hrd' hrd hel
              have hel : At wr b (off + j * 7) [.int .i64 (atT k.txs j).id, .int .i64 (atT k.txs j).home, .int .i64 (atT k.txs j).phase, .int .i64 (atT k.txs j).count, .slice t0 (atT k.txs j).reads.length t1, .slice t2 (atT k.txs j).sets.length t3, .int .i64 (atT k.txs j).stamp] := fun i u hu => by
                rcases i with _ | _ | _ | _ | _ | _ | _ | i
                · simp at hu; subst hu; exact es0
                · simp at hu; subst hu; exact es1
                · simp at hu; subst hu; exact es2
                · simp at hu; subst hu; exact es3
                · simp at hu; subst hu; exact es4
                · simp at hu; subst hu; exact es5
                · simp at hu; subst hu; exact es6
                · simp at hu
              have hbw : b < w.heap.size := by
                rcases H.out.2.t with h0 | ⟨b', off', e', hb', _⟩
                · rw [h0] at hlt; simp at hlt
                · cases e'; exact hb'
              have hSX : (fun X : World => Bx X (w.heap.size + 2) [.int .i64 k.config, .int .i64 k.clock, (.slice bP k.places.length dP), (.slice bM k.machines.length dM), (.slice bT j dT), .bool k.lost] ∧ Sp w [.int .i64 k.config, .int .i64 k.clock, .slice a1 k.places.length c1, .slice a2 k.machines.length c2, .slice (some ⟨b, off, none⟩) k.txs.length c3, .bool k.lost] b (off + j * 7) [.int .i64 (atT k.txs j).id, .int .i64 (atT k.txs j).home, .int .i64 (atT k.txs j).phase, .int .i64 (atT k.txs j).count, .slice t0 (atT k.txs j).reads.length t1, .slice t2 (atT k.txs j).sets.length t3, .int .i64 (atT k.txs j).stamp] X) wr.drew := ⟨hst.own.later (Below.refl _ _).drew, ⟨hst.arg.later (Below.refl _ _).drew, hel.of_block rfl, hbw⟩⟩
              have HD : Hid (Below wr.heap.size wr wr.drew) := (Below.refl _ _).drew
              have jn : (j : Int) < (k.txs.length : Int) := by omega
              obtain ⟨l1, l2⟩ := H.out.1.ts _ (List.mem_of_getElem? hat)
              have hcl := tx.l7Copy_any wr.drew ⟨t0, t1, t2, t3⟩ (atT k.txs j) (by omega) (by omega) (tx.SlT.later hsd (Below.refl _ _).drew)
              simp only [tx.TV.val] at hcl
              clear l1 l2
              have HS := hidOf hst
              have HM : Hid (ts.map (·.2) = k.txs.take j ∧ ts.length = j ∧ k.txs[j]? = some (atT k.txs j)) := ⟨hmp, hlp, hat⟩
              clear hst hmp hlp hat hel hbw hsd es0 es1 es2 es3 es4 es5 es6
              go_wp2_with fail
              refine wp_region_until 11 (fun X : World => Bx X (w.heap.size + 2) [.int .i64 k.config, .int .i64 k.clock, (.slice bP k.places.length dP), (.slice bM k.machines.length dM), (.slice bT j dT), .bool k.lost] ∧ Sp w [.int .i64 k.config, .int .i64 k.clock, .slice a1 k.places.length c1, .slice a2 k.machines.length c2, .slice (some ⟨b, off, none⟩) k.txs.length c3, .bool k.lost] b (off + j * 7) [.int .i64 (atT k.txs j).id, .int .i64 (atT k.txs j).home, .int .i64 (atT k.txs j).phase, .int .i64 (atT k.txs j).count, .slice t0 (atT k.txs j).reads.length t1, .slice t2 (atT k.txs j).sets.length t3, .int .i64 (atT k.txs j).stamp] X) (by kernel_rfl) ?_
              generalize wr.drew = XD at *
              refine wpUntil_take (i := 0) (v := ?_) rfl (by kernel_rfl) (fun _ _ _ h => h) (Or.inl ⟨by rfl, ?_⟩) hSX ?_
              rotate_left
              · (intro w hSw; go_simp; first | done | with_reducible rfl)
              simp only [Act.put]
              refine wpUntil_take (i := 1) (v := ?_) rfl (by kernel_rfl) (fun _ _ _ h => h) (Or.inl ⟨by rfl, ?_⟩) hSX ?_
              rotate_left
              · (intro w hSw; have q := hSw.1.1 4 _ rfl; go_simp; first | done | with_reducible rfl | exact q)
              simp only [Act.put]
              refine wpUntil_take (i := 2) (v := ?_) rfl (by kernel_rfl) (fun _ _ _ h => h) (Or.inl ⟨by rfl, ?_⟩) hSX ?_
              rotate_left
              · (intro w hSw; go_simp; first | done | with_reducible rfl)
              simp only [Act.put]
              refine wpUntil_take (i := 3) (v := ?_) rfl (by kernel_rfl) (fun _ _ _ h => h) (Or.inl ⟨by rfl, ?_⟩) hSX ?_
              rotate_left
              · (intro w hSw; have q := hSw.2.1.1 4 _ rfl; go_simp; first | done | with_reducible rfl | exact q)
              simp only [Act.put]
              refine wpUntil_take (i := 4) (v := ?_) rfl (by kernel_rfl) (fun _ _ _ h => h) (Or.inl ⟨by rfl, ?_⟩) hSX ?_
              rotate_left
              · (intro w hSw; go_simp; first | done | with_reducible rfl)
              simp only [Act.put]
              refine wpUntil_take (i := 5) (v := ?_) rfl (by kernel_rfl) (fun _ _ _ h => h) (Or.inl ⟨by rfl, ?_⟩) hSX ?_
              rotate_left
              · (intro w hSw; go_simp; first | done | with_reducible rfl | (rw [if_pos (by omega)]))
              simp only [Act.put]
              refine wpUntil_take (i := 6) (v := ?_) rfl (by kernel_rfl) (fun _ _ _ h => h) (Or.inl ⟨by rfl, ?_⟩) hSX ?_
              rotate_left
              · (intro w hSw; have q0 : w.cell? ⟨b, off + j * 7, none⟩ = some (.int .i64 (atT k.txs j).id) := hSw.2.2.1 0 _ rfl; have q1 : w.cell? ⟨b, off + j * 7 + 1, none⟩ = some (.int .i64 (atT k.txs j).home) := hSw.2.2.1 1 _ rfl; have q2 : w.cell? ⟨b, off + j * 7 + 2, none⟩ = some (.int .i64 (atT k.txs j).phase) := hSw.2.2.1 2 _ rfl; have q3 : w.cell? ⟨b, off + j * 7 + 3, none⟩ = some (.int .i64 (atT k.txs j).count) := hSw.2.2.1 3 _ rfl; have q4 : w.cell? ⟨b, off + j * 7 + 4, none⟩ = some (.slice t0 (atT k.txs j).reads.length t1) := hSw.2.2.1 4 _ rfl; have q5 : w.cell? ⟨b, off + j * 7 + 5, none⟩ = some (.slice t2 (atT k.txs j).sets.length t3) := hSw.2.2.1 5 _ rfl; have q6 : w.cell? ⟨b, off + j * 7 + 6, none⟩ = some (.int .i64 (atT k.txs j).stamp) := hSw.2.2.1 6 _ rfl; go_simp; first | done | with_reducible rfl | rfl)
              simp only [Act.put]
              refine wpUntil_ready (rs := [7]) (by kernel_rfl) (by simp) ?_
              refine AllU.cons rfl (fun K hK => ?_) AllU.nil
              go_simp
              refine hcl.mono ?_
              clear hcl
              rintro e X2 ⟨u0, u1, u2, u3, PR, PS, rfl, ho, b2⟩
              simp only [tx.TV.val]
              have hO : KTk.Ow X2 wr.heap.size ⟨u0, u1, u2, u3⟩ (atT k.txs j) (tx.OfT PR PS) := KTk.low (KT.ow ho) HD.out.size
              have HD' : Hid (Below wr.heap.size wr XD ∧ True) := ⟨HD.out, trivial⟩
              have HD := HD'
              clear HD'
              have bX2 : Below wr.heap.size wr X2 := bstep HD.out.1 b2
              have hS2 : (fun X : World => Bx X (w.heap.size + 2) [.int .i64 k.config, .int .i64 k.clock, (.slice bP k.places.length dP), (.slice bM k.machines.length dM), (.slice bT j dT), .bool k.lost] ∧ Sp w [.int .i64 k.config, .int .i64 k.clock, .slice a1 k.places.length c1, .slice a2 k.machines.length c2, .slice (some ⟨b, off, none⟩) k.txs.length c3, .bool k.lost] b (off + j * 7) [.int .i64 (atT k.txs j).id, .int .i64 (atT k.txs j).home, .int .i64 (atT k.txs j).phase, .int .i64 (atT k.txs j).count, .slice t0 (atT k.txs j).reads.length t1, .slice t2 (atT k.txs j).sets.length t3, .int .i64 (atT k.txs j).stamp] X) X2 := ⟨hSX.1.later b2, hSX.2.later b2⟩
              obtain ⟨X3, hX3⟩ : ∃ X, X = X2.alloc (.cells #[(.int .i64 (atT k.txs j).id), (.int .i64 (atT k.txs j).home), (.int .i64 (atT k.txs j).phase), (.int .i64 (atT k.txs j).count), (.slice u0 (atT k.txs j).reads.length u1), (.slice u2 (atT k.txs j).sets.length u3), (.int .i64 (atT k.txs j).stamp)] 56) := ⟨_, rfl⟩
              have b3 : Below X2.heap.size X2 X3 := by rw [hX3]; exact (Below.refl _ _).alloc (Nat.le_refl _) _
              have x3 : Bx X3 X2.heap.size [(.int .i64 (atT k.txs j).id), (.int .i64 (atT k.txs j).home), (.int .i64 (atT k.txs j).phase), (.int .i64 (atT k.txs j).count), (.slice u0 (atT k.txs j).reads.length u1), (.slice u2 (atT k.txs j).sets.length u3), (.int .i64 (atT k.txs j).stamp)] := by rw [hX3]; exact Bx.made X2 [(.int .i64 (atT k.txs j).id), (.int .i64 (atT k.txs j).home), (.int .i64 (atT k.txs j).phase), (.int .i64 (atT k.txs j).count), (.slice u0 (atT k.txs j).reads.length u1), (.slice u2 (atT k.txs j).sets.length u3), (.int .i64 (atT k.txs j).stamp)] _
              have hS3 : (fun X : World => Bx X (w.heap.size + 2) [.int .i64 k.config, .int .i64 k.clock, (.slice bP k.places.length dP), (.slice bM k.machines.length dM), (.slice bT j dT), .bool k.lost] ∧ Sp w [.int .i64 k.config, .int .i64 k.clock, .slice a1 k.places.length c1, .slice a2 k.machines.length c2, .slice (some ⟨b, off, none⟩) k.txs.length c3, .bool k.lost] b (off + j * 7) [.int .i64 (atT k.txs j).id, .int .i64 (atT k.txs j).home, .int .i64 (atT k.txs j).phase, .int .i64 (atT k.txs j).count, .slice t0 (atT k.txs j).reads.length t1, .slice t2 (atT k.txs j).sets.length t3, .int .i64 (atT k.txs j).stamp] X) X3 := ⟨hS2.1.later b3, hS2.2.later b3⟩
              obtain ⟨v', Y, hr, hcs, hob, hfar, hsz, a', c', rfl⟩ := HS.out.pushT (bstep bX2 b3) (⟨u0, u1, u2, u3⟩ : tx.TV) (atT k.txs j) (tx.OfT PR PS) X2.heap.size (by rw [HM.out.2.1]; omega) 30 x3.1 (KTk.keep hO b3.size (fun q hq => b3.block q (KTk.of hO hq).2))
              have hS4 : (fun X : World => Bx X (w.heap.size + 2) [.int .i64 k.config, .int .i64 k.clock, (.slice bP k.places.length dP), (.slice bM k.machines.length dM), (.slice bT j dT), .bool k.lost] ∧ Sp w [.int .i64 k.config, .int .i64 k.clock, .slice a1 k.places.length c1, .slice a2 k.machines.length c2, .slice (some ⟨b, off, none⟩) k.txs.length c3, .bool k.lost] b (off + j * 7) [.int .i64 (atT k.txs j).id, .int .i64 (atT k.txs j).home, .int .i64 (atT k.txs j).phase, .int .i64 (atT k.txs j).count, .slice t0 (atT k.txs j).reads.length t1, .slice t2 (atT k.txs j).sets.length t3, .int .i64 (atT k.txs j).stamp] X) Y := ⟨hob, hS3.2.of hsz (fun q hq => hfar q (.inl hq))⟩
              have HE : Hid ((ts ++ [((⟨u0, u1, u2, u3⟩ : tx.TV), atT k.txs j)]).map (·.2) = k.txs.take (j + 1)) := by unfold Hid; rw [List.map_append, HM.out.1]; exact take_snoc HM.out.2.2
              rw [HM.out.2.1] at hr hcs
              have KE := hidOf hcs
              refine hK.out _ _ (fun _ => hS2) ?_
              clear hK K b2 bX2 b3 x3 hcs hob hfar hsz hO hSX
              refine wpUntil_ready (rs := [8]) (by kernel_rfl) (by simp) ?_
              refine AllU.cons rfl (fun K hK => ?_) AllU.nil
              go_simp
              rw [← hX3]
              refine hK.out _ _ (fun _ => hS3) ?_
              clear hK K hS2
              refine wpUntil_ready (rs := [9]) (by kernel_rfl) (by simp) ?_
              refine AllU.cons rfl (fun K hK => ?_) AllU.nil
              refine step_known _ rfl (.tmp 61) (.tmp 68) 30 rfl _ _ _ _ (by first | rfl | simp [Act.eval, Act.put]) (by first | rfl | simp [Act.eval, Act.put]) hr ?_
              refine hK.out _ _ (fun _ => hS4) ?_
              clear hK K hr hS3 hX3
              simp only [Act.put]
              refine wpUntil_ready (rs := [10]) (by kernel_rfl) (by simp) ?_
              refine AllU.cons rfl (fun K hK => ?_) AllU.nil
              go_simp
              refine hK.out _ _ (fun _ => hS4) ?_
              clear hK K
              refine wpUntil_ready (rs := [11]) (by kernel_rfl) (by simp) ?_
              refine AllU.cons rfl (fun K hK => ?_) AllU.nil
              have o4 := hS4.1.1 4 _ rfl
              have fo4 := hS4.1.2.1 4
              go_simp
              refine hK.out _ _ (fun h => absurd rfl h) ?_
              clear hK K
              refine wpUntil_done (by kernel_rfl) ?_ _
              go_wp2
              exact ⟨⟨j + 1, a', c', _, _, by omega, by simp, HE.out, KE.out⟩, by simp [intOf]; omega⟩
            · obtain rfl : k.txs.length = j := by omega
              have hd : decide ((k.txs.length : Int) < (k.txs.length : Int)) = false := by simp
              rw [List.take_length] at hmp
              have ET : Hid (ts.map (·.2) = k.txs) := hmp
              have S1 := hidOf hst
              clear hmp hst hj hlt hln
              have o0 := S1.out.own.1 0 _ rfl
              have o1 := S1.out.own.1 1 _ rfl
              have o2 := S1.out.own.1 2 _ rfl
              have o3 := S1.out.own.1 3 _ rfl
              have o4 := S1.out.own.1 4 _ rfl
              have o5 := S1.out.own.1 5 _ rfl
              have r0 := S1.out.res.1 0 _ rfl
              have r1 := S1.out.res.1 1 _ rfl
              have r2 := S1.out.res.1 2 _ rfl
              have r3 := S1.out.res.1 3 _ rfl
              have r4 := S1.out.res.1 4 _ rfl
              have r5 := S1.out.res.1 5 _ rfl
              have f0 := S1.out.res.2.1 0
              have f1 := S1.out.res.2.1 1
              have f2 := S1.out.res.2.1 2
              have f3 := S1.out.res.2.1 3
              have f4 := S1.out.res.2.1 4
              have f5 := S1.out.res.2.1 5
              go_wp2
              refine bodyPost_ret (v := .agg #[.int .i64 k.config, .int .i64 k.clock, .slice bP k.places.length dP, .slice bM k.machines.length dM, .slice bT k.txs.length dT, .bool k.lost]) (by simp [results, Tryz.results33, go_sem, r0, r1, r2, r3, r4, r5]) rfl ?_
              refine ⟨bP, dP, bM, dM, bT, dT, ps, gp, ms, gm, ts, gt, rfl, ?_, EP.out, EM.out, ET.out, ?_⟩
              · exact S1.out.rows.keep (Y := putB wr (w.heap.size + 1) 0 [.int .i64 k.config, .int .i64 k.clock, .slice bP k.places.length dP, .slice bM k.machines.length dM, .slice bT k.txs.length dT, .bool k.lost]) (by rw [putB_size]; exact Nat.le_refl _) (fun q _ hb _ => putB_block (by omega) _ _ _)
              · exact putB_below (w := w) (by omega) [.int .i64 k.config, .int .i64 k.clock, .slice bP k.places.length dP, .slice bM k.machines.length dM, .slice bT k.txs.length dT, .bool k.lost] wr 0 S1.out.bel
set_option maxRecDepth 100000 in
set_option maxHeartbeats 8000000 in
theorem specClusterOk_any (w : World) (a1 : Option Addr) (c1 : Nat) (a2 : Option Addr) (c2 : Nat) (a3 : Option Addr) (c3 : Nat) (k : C6) (hl : KCl.L k) (h : KCl.Rd w a1 c1 a2 c2 a3 c3 k) : Calls Tryz.prog 29 #[.agg #[.int .i64 k.config, .int .i64 k.clock, .slice a1 k.places.length c1, .slice a2 k.machines.length c2, .slice a3 k.txs.length c3, .bool k.lost]] w fun e w' => e = .returned (.bool (clusterB k)) ∧ Below w.heap.size w w' := by
  obtain ⟨U, hU⟩ : ∃ Y, Y = w.alloc (.cells #[.int .i64 k.config, .int .i64 k.clock, .slice a1 k.places.length c1, .slice a2 k.machines.length c2, .slice a3 k.txs.length c3, .bool k.lost] 32) := ⟨_, rfl⟩
  have b0 : Below w.heap.size w U := by rw [hU]; exact (Below.refl _ _).alloc (Nat.le_refl _) _
  have FA : Hid (Bx U w.heap.size [.int .i64 k.config, .int .i64 k.clock, .slice a1 k.places.length c1, .slice a2 k.machines.length c2, .slice a3 k.txs.length c3, .bool k.lost]) := by rw [hU]; exact Bx.made w [.int .i64 k.config, .int .i64 k.clock, .slice a1 k.places.length c1, .slice a2 k.machines.length c2, .slice a3 k.txs.length c3, .bool k.lost] _
  have HR : Hid (KCl.Rd U a1 c1 a2 c2 a3 c3 k ∧ KCl.L k) := ⟨h.later b0, hl⟩
  have BW : Hid (Below w.heap.size w U) := b0
  have lm := hl.m
  have lt := hl.t
  have lp := hl.p
  unfold maxLen at lm lt lp
  have p0 := FA.out.1 0 _ rfl
  have p1 := FA.out.1 1 _ rfl
  have p2 := FA.out.1 2 _ rfl
  have p3 := FA.out.1 3 _ rfl
  have p4 := FA.out.1 4 _ rfl
  clear b0 hl h
  by_cases g0 : inB 1 1000000 k.config = true
  case neg =>
    have d0 : inB 1 1000000 k.config = false := by simpa using g0
    have hb : clusterB k = false := by simp [clusterB, d0]
    rw [hb]
    rw [hU] at BW p0 p1 p2 p3 p4
    clear FA HR hU
    go_enter Tryz.func29, Tryz.ntmps29
    go_wp2_with (first | (go_at_call 31; refine (tx.specId_e _ _).mono ?_; rintro e w' ⟨rfl, rfl⟩) | (go_at_call 32; refine (specIn _ _ _ _).mono ?_; rintro e w' ⟨rfl, rfl⟩))
    go_ret
    exact ⟨rfl, BW.out⟩
  by_cases g1 : inB 0 1000000 k.clock = true
  case neg =>
    have d1 : inB 0 1000000 k.clock = false := by simpa using g1
    have hb : clusterB k = false := by simp [clusterB, d1]
    rw [hb]
    rw [hU] at BW p0 p1 p2 p3 p4
    clear FA HR hU
    go_enter Tryz.func29, Tryz.ntmps29
    go_wp2_with (first | (go_at_call 31; refine (tx.specId_e _ _).mono ?_; rintro e w' ⟨rfl, rfl⟩) | (go_at_call 32; refine (specIn _ _ _ _).mono ?_; rintro e w' ⟨rfl, rfl⟩))
    go_ret
    exact ⟨rfl, BW.out⟩
  by_cases g2 : 1 ≤ k.machines.length
  case neg =>
    have d2 : decide ((k.machines.length : Int) < 1) = true := by simp; omega
    have hb : clusterB k = false := by simp [clusterB, g2]
    rw [hb]
    rw [hU] at BW p0 p1 p2 p3 p4
    clear FA HR hU
    go_enter Tryz.func29, Tryz.ntmps29
    go_wp2_with (first | (go_at_call 31; refine (tx.specId_e _ _).mono ?_; rintro e w' ⟨rfl, rfl⟩) | (go_at_call 32; refine (specIn _ _ _ _).mono ?_; rintro e w' ⟨rfl, rfl⟩))
    go_ret
    exact ⟨rfl, BW.out⟩
  have d2 : decide ((k.machines.length : Int) < 1) = false := by simp; omega
  by_cases g3 : k.machines.length ≤ 8
  case neg =>
    have d3 : decide ((8 : Int) < (k.machines.length : Int)) = true := by simp; omega
    have hb : clusterB k = false := by simp [clusterB, g3]
    rw [hb]
    rw [hU] at BW p0 p1 p2 p3 p4
    clear FA HR hU
    go_enter Tryz.func29, Tryz.ntmps29
    go_wp2_with (first | (go_at_call 31; refine (tx.specId_e _ _).mono ?_; rintro e w' ⟨rfl, rfl⟩) | (go_at_call 32; refine (specIn _ _ _ _).mono ?_; rintro e w' ⟨rfl, rfl⟩))
    go_ret
    exact ⟨rfl, BW.out⟩
  have d3 : decide ((8 : Int) < (k.machines.length : Int)) = false := by simp; omega
  have BF : Hid (∀ V, Below U.heap.size U V → Below w.heap.size w V) := fun V hV => bstep BW.out hV
  have hc := specPlacesOk_any U a1 k.places.length c1 k.places HR.out.2.p HR.out.1.p
  rw [hU] at p0 p1 p2 p3 p4
  clear BW
  go_enter Tryz.func29, Tryz.ntmps29
  go_wp2_with (first | (go_at_call 31; refine (tx.specId_e _ _).mono ?_; rintro e w' ⟨rfl, rfl⟩) | (go_at_call 32; refine (specIn _ _ _ _).mono ?_; rintro e w' ⟨rfl, rfl⟩))
  rw [← hU]
  clear hU p0 p1 p2 p3 p4
  refine hc.mono ?_
  clear hc
  rintro e w1 ⟨rfl, b1⟩
  have B1 := tx.hidOf b1
  clear b1
  have p4 := (FA.out.later B1.out).1 4 _ rfl
  cases hP : placesB k.places with
  | false =>
    have hb : Hid (clusterB k = false) := by unfold Hid; simp [clusterB, hP]
    go_wp2
    go_ret
    exact ⟨by rw [hb.out]; rfl, BF.out _ B1.out⟩
  | true =>
  by_cases g5 : k.txs.length ≤ 60
  case neg =>
    have d5 : decide ((60 : Int) < (k.txs.length : Int)) = true := by simp; omega
    have hb : Hid (clusterB k = false) := by unfold Hid; simp [clusterB, g5]
    go_wp2
    go_ret
    exact ⟨by rw [hb.out]; rfl, BF.out _ B1.out⟩
  have d5 : decide ((60 : Int) < (k.txs.length : Int)) = false := by simp; omega
  have HC : Hid (clusterB k = (machsB k.machines && placedB k.places k.machines && txsB k)) := by unfold Hid; simp [clusterB, g0, g1, g2, g3, hP, g5]
  have HZ : Hid (∀ r j, r < k.places.length → j < (atP k.places r).length → 0 ≤ atN (atP k.places r) j ∧ atN (atP k.places r) j ≤ 7) := fun r j hr hj => places_z hP hr hj
  clear g0 g1 hP
  go_wp2
  clear p4 d2 d3 d5
  go_loopw [4] (fun v4 wr => ∃ i : Nat, i ≤ k.machines.length ∧ v4 = .int .i64 i ∧ Below U.heap.size U wr ∧ (List.range i).all (fun i => machB (atM k.machines i)) = true) (fun v4 _ => k.machines.length - (intOf v4).toNat)
  case atStart => exact ⟨0, Nat.zero_le _, rfl, B1.out, rfl⟩
  case round =>
  obtain ⟨i, hi, rfl, hbl, hall⟩ := hrel
  have KB : Hid (Below U.heap.size U wr ∧ (List.range i).all (fun i => machB (atM k.machines i)) = true) := ⟨hbl, hall⟩
  clear hbl hall
  by_cases hlt : i < k.machines.length
  case pos =>
    have hd := atM_of hlt
    rcases HR.out.1.m with hs | ⟨b, off, rfl, hb, h1⟩
    · rw [hs] at hlt; simp at hlt
    obtain ⟨⟨m0, m1, m2, m3, m4, m5⟩, hat, hrd⟩ := h1 i _ hd
    have e0 : wr.cell? ⟨b, off + i * 4, none⟩ = some (.bool (atM k.machines i).alive) := (KB.out.1.cell (p := ⟨b, off + i * 4, none⟩) hb).trans (hat 0 _ rfl)
    have e1 : wr.cell? ⟨b, off + i * 4 + 1, none⟩ = some (.slice m0 (atM k.machines i).copies.length m1) := (KB.out.1.cell (p := ⟨b, off + i * 4 + 1, none⟩) hb).trans (hat 1 _ rfl)
    have e2 : wr.cell? ⟨b, off + i * 4 + 2, none⟩ = some (.slice m2 (atM k.machines i).log.length m3) := (KB.out.1.cell (p := ⟨b, off + i * 4 + 2, none⟩) hb).trans (hat 2 _ rfl)
    have e3 : wr.cell? ⟨b, off + i * 4 + 3, none⟩ = some (.slice m4 (atM k.machines i).cleared.length m5) := (KB.out.1.cell (p := ⟨b, off + i * 4 + 3, none⟩) hb).trans (hat 3 _ rfl)
    have hML := HR.out.2.ms _ (List.mem_of_getElem? hd)
    have hc := specMachineOk_any wr ⟨m0, m1, m2, m3, m4, m5⟩ (atM k.machines i) hML.k hML.r hML.n hML.ks hML.rs (KMk.later hrd KB.out.1)
    simp only [MV.val] at hc
    have p3 := (FA.out.later KB.out.1).1 3 _ rfl
    have jn : (i : Int) < (k.machines.length : Int) := by omega
    clear hat hrd h1 hd hML hb
    go_wp2_with fail
    refine hc.mono ?_
    clear hc e0 e1 e2 e3 p3
    rintro e w2 ⟨rfl, b2⟩
    have K2 : Hid (Below U.heap.size U w2) := bstep KB.out.1 b2
    clear b2
    cases hB : machB (atM k.machines i) with
    | false =>
      have hb : Hid (clusterB k = false) := by unfold Hid; rw [HC.out]; simp [machsB, all_off (f := fun i => machB (atM k.machines i)) hlt hB]
      go_wp2
      go_ret
      exact ⟨by rw [hb.out]; rfl, BF.out _ K2.out⟩
    | true =>
      go_wp2
      exact ⟨⟨i + 1, by omega, by simp, K2.out, all_on KB.out.2 hB⟩, by simp [intOf]; omega⟩
  obtain rfl : i = k.machines.length := by omega
  have hdl : decide ((k.machines.length : Int) < (k.machines.length : Int)) = false := by simp
  have HC2 : Hid (clusterB k = (placedB k.places k.machines && txsB k)) := by unfold Hid; rw [HC.out, machsB, KB.out.2]; simp
  go_wp2
  generalize wr = wA at *
  clear hdl
  go_loopw [5] (fun v5 wr => ∃ r : Nat, r ≤ k.places.length ∧ v5 = .int .i64 r ∧ Below U.heap.size U wr ∧ (List.range r).all (fun r => placB k.machines r (atP k.places r)) = true) (fun v5 _ => k.places.length - (intOf v5).toNat)
  case atStart => exact ⟨0, Nat.zero_le _, rfl, KB.out.1, rfl⟩
  case round =>
  obtain ⟨r, hr, rfl, hbl, hall⟩ := hrel
  have KC : Hid (Below U.heap.size U wr ∧ (List.range r).all (fun r => placB k.machines r (atP k.places r)) = true) := ⟨hbl, hall⟩
  clear hbl hall
  have p2 := (FA.out.later KC.out.1).1 2 _ rfl
  by_cases hlr : r < k.places.length
  case pos =>
    obtain ⟨_, hsp⟩ := HR.out.1.p
    rcases hsp with hsp | ⟨b, off, rfl, hb, hpl⟩
    · omega
    obtain ⟨a', cap', hc, hsl, hcp⟩ := hpl r _ (atP_of hlr)
    have c := (KC.out.1.cell (p := ⟨b, off + r, none⟩) hb).trans hc
    have HSL : Hid (SlN U U.heap.size a' (atP k.places r).length (atP k.places r)) := hsl
    have jr : (r : Int) < (k.places.length : Int) := by omega
    have lz := HR.out.2.ps _ (List.mem_of_getElem? (atP_of hlr))
    unfold maxLen at lz
    have HF : Hid (placB k.machines r (atP k.places r) = false → clusterB k = false) := fun hh => by rw [HC2.out, placedB, all_off (f := fun r => placB k.machines r (atP k.places r)) hlr hh]; rfl
    have HZr : Hid (∀ j, j < (atP k.places r).length → 0 ≤ atN (atP k.places r) j ∧ atN (atP k.places r) j ≤ 7) := fun j hj => HZ.out r j hlr hj
    have HPL : Hid (placB k.machines r (atP k.places r) = (List.range (atP k.places r).length).all fun j => servB k.machines r (atN (atP k.places r) j)) := rfl
    have HON : Hid (placB k.machines r (atP k.places r) = true → (List.range (r + 1)).all (fun r => placB k.machines r (atP k.places r)) = true) := fun hh => all_on (f := fun r => placB k.machines r (atP k.places r)) KC.out.2 hh
    clear hpl hc hsl
    generalize hzs : atP k.places r = zs at *
    go_wp2
    clear c p2 jr hzs
    generalize wr = wC at *
    go_loopw [7] (fun v7 wr => ∃ j : Nat, j ≤ zs.length ∧ v7 = .int .i64 j ∧ Below U.heap.size U wr ∧ (List.range j).all (fun j => servB k.machines r (atN zs j)) = true) (fun v7 _ => zs.length - (intOf v7).toNat)
    case atStart => exact ⟨0, Nat.zero_le _, rfl, KC.out.1, rfl⟩
    case round =>
    obtain ⟨j, hj, rfl, hbl, hall⟩ := hrel
    have KD : Hid (Below U.heap.size U wr ∧ (List.range j).all (fun j => servB k.machines r (atN zs j)) = true) := ⟨hbl, hall⟩
    clear hbl hall
    by_cases hlj : j < zs.length
    case neg =>
      obtain rfl : j = zs.length := by omega
      have hdl : decide ((zs.length : Int) < (zs.length : Int)) = false := by simp
      have hh := HON.out (by rw [HPL.out]; exact KD.out.2)
      go_wp2
      exact ⟨⟨r + 1, by omega, by simp, KD.out.1, hh⟩, by simp [intOf]; omega⟩
    obtain ⟨_, hsn⟩ := HSL.out
    rcases hsn with hsn | ⟨b', off', rfl, hb', h2⟩
    · omega
    have hz := HZr.out j hlj
    obtain ⟨i, hi⟩ : ∃ i : Nat, atN zs j = (i : Int) := ⟨(atN zs j).toNat, by omega⟩
    have hck := h2 j _ (atN_of hlj)
    rw [hi] at hck
    have xz : ∀ dd os, (grow (redrawn wr dd) os).cell? ⟨b', off' + j, none⟩ = some (.int .i64 (i : Int)) := fun dd os => ((bstep KD.out.1 (below_regrown wr dd os)).cell (p := ⟨b', off' + j, none⟩) hb').trans (hck)
    have jz : (j : Int) < (zs.length : Int) := by omega
    have jc : j < cap' := by omega
    have HB : Hid (servB k.machines r (atN zs j) = (decide ((i : Int) < (k.machines.length : Int)) && (!(atM k.machines i).alive || hasC (atM k.machines i) (r : Int)))) := by unfold Hid servB; rw [hi]; rfl
    have HFF : Hid (servB k.machines r (atN zs j) = false → clusterB k = false) := fun hh => HF.out (by rw [HPL.out]; exact all_off (f := fun j => servB k.machines r (atN zs j)) hlj hh)
    clear hck h2 hz hi
    by_cases him : i < k.machines.length
    case neg =>
      have dz : decide ((k.machines.length : Int) ≤ (i : Int)) = true := by simp <;> omega
      have dz2 : decide (k.machines.length ≤ i) = true := by simp <;> omega
      have hb0 : Hid (clusterB k = false) := HFF.out (by rw [HB.out]; simp [him])
      go_wp2_with fail
      refine wp_region_quiet_below (by kernel_rfl) (by kernel_rfl) ?_
      repeat (go_big_quiet_step (fail))
      refine wpQuiet_nil ?_
      intro _ hw'
      obtain ⟨⟨dq, osq⟩, hw''⟩ := hw'
      subst hw''
      have bq := below_regrown wr dq osq
      go_wp2
      go_ret
      exact ⟨by rw [hb0.out]; rfl, BF.out _ (bstep KD.out.1 bq)⟩
    have dz : decide ((k.machines.length : Int) ≤ (i : Int)) = false := by simp <;> omega
    have dz2 : decide (k.machines.length ≤ i) = false := by simp <;> omega
    have hd := atM_of him
    rcases HR.out.1.m with hs | ⟨b2, off2, rfl, hb2, h1⟩
    · rw [hs] at him; simp at him
    obtain ⟨⟨m0, m1, m2, m3, m4, m5⟩, hat, hrd⟩ := h1 i _ hd
    have hbx := FA.out.1 3 _ rfl
    have x3 : ∀ dd os, (grow (redrawn wr dd) os).cell? ⟨w.heap.size, 3, none⟩ = some (.slice (some ⟨b2, off2, none⟩) k.machines.length c2) := fun dd os => ((bstep KD.out.1 (below_regrown wr dd os)).cell (p := ⟨w.heap.size, 3, none⟩) FA.out.2.2).trans (hbx)
    clear hbx
    have e0 : ∀ dd os, (grow (redrawn wr dd) os).cell? ⟨b2, off2 + i * 4, none⟩ = some (.bool (atM k.machines i).alive) := fun dd os => ((bstep KD.out.1 (below_regrown wr dd os)).cell (p := ⟨b2, off2 + i * 4, none⟩) hb2).trans (hat 0 _ rfl)
    have e1 : ∀ dd os, (grow (redrawn wr dd) os).cell? ⟨b2, off2 + i * 4 + 1, none⟩ = some (.slice m0 (atM k.machines i).copies.length m1) := fun dd os => ((bstep KD.out.1 (below_regrown wr dd os)).cell (p := ⟨b2, off2 + i * 4 + 1, none⟩) hb2).trans (hat 1 _ rfl)
    have e2 : ∀ dd os, (grow (redrawn wr dd) os).cell? ⟨b2, off2 + i * 4 + 2, none⟩ = some (.slice m2 (atM k.machines i).log.length m3) := fun dd os => ((bstep KD.out.1 (below_regrown wr dd os)).cell (p := ⟨b2, off2 + i * 4 + 2, none⟩) hb2).trans (hat 2 _ rfl)
    have e3 : ∀ dd os, (grow (redrawn wr dd) os).cell? ⟨b2, off2 + i * 4 + 3, none⟩ = some (.slice m4 (atM k.machines i).cleared.length m5) := fun dd os => ((bstep KD.out.1 (below_regrown wr dd os)).cell (p := ⟨b2, off2 + i * 4 + 3, none⟩) hb2).trans (hat 3 _ rfl)
    have hML := HR.out.2.ms _ (List.mem_of_getElem? hd)
    have cQ : ∀ dd os, Calls Tryz.prog 80 #[.agg #[.bool (atM k.machines i).alive, .slice m0 (atM k.machines i).copies.length m1, .slice m2 (atM k.machines i).log.length m3, .slice m4 (atM k.machines i).cleared.length m5], .int .i64 (r : Int)] (grow (redrawn wr dd) os) fun e w'' => e = .returned (.int .i64 (idxC (atM k.machines i) (r : Int))) ∧ ∃ p : Regrown, w'' = grow (redrawn wr p.d) p.os := fun dd os => Calls.regrown_of (l6At_v _ m0 m1 m2 m3 m4 m5 (atM k.machines i) r hML (KMk.later hrd (bstep KD.out.1 (below_regrown wr dd os))))
    have im : (i : Int) < (k.machines.length : Int) := by omega
    have dC := idxC_lt (atM k.machines i) (r : Int)
    clear hat hrd h1 hd hML
    cases ha : (atM k.machines i).alive with
    | false =>
      rw [ha] at e0
      have hon : Hid ((List.range (j + 1)).all (fun j => servB k.machines r (atN zs j)) = true) := all_on (f := fun j => servB k.machines r (atN zs j)) KD.out.2 (by rw [HB.out]; simp [him, ha])
      clear cQ dC e1 e2 e3
      go_wp2_with fail
      refine wp_region_quiet_below (by kernel_rfl) (by kernel_rfl) ?_
      repeat (go_big_quiet_step (fail))
      refine wpQuiet_nil ?_
      intro _ hw'
      obtain ⟨⟨dq, osq⟩, hw''⟩ := hw'
      subst hw''
      have bq := below_regrown wr dq osq
      go_wp2
      exact ⟨⟨j + 1, by omega, by simp, bstep KD.out.1 bq, hon.out⟩, by simp [intOf]; omega⟩
    | true =>
      rw [ha] at e0 cQ
      generalize idxC (atM k.machines i) (r : Int) = ic at *
      cases hh : hasC (atM k.machines i) (r : Int) with
      | false =>
        rw [hh] at dC
        have hb0 : Hid (clusterB k = false) := HFF.out (by rw [HB.out]; simp [him, ha, hh])
        go_wp2_with fail
        refine wp_region_quiet_below (by kernel_rfl) (by kernel_rfl) ?_
        repeat (go_big_quiet_step (exact cQ _ _))
        refine wpQuiet_nil ?_
        intro _ hw'
        obtain ⟨⟨dq, osq⟩, hw''⟩ := hw'
        subst hw''
        have bq := below_regrown wr dq osq
        go_wp2
        go_ret
        exact ⟨by rw [hb0.out]; rfl, BF.out _ (bstep KD.out.1 bq)⟩
      | true =>
        rw [hh] at dC
        have hon : Hid ((List.range (j + 1)).all (fun j => servB k.machines r (atN zs j)) = true) := all_on (f := fun j => servB k.machines r (atN zs j)) KD.out.2 (by rw [HB.out]; simp [him, ha, hh])
        go_wp2_with fail
        refine wp_region_quiet_below (by kernel_rfl) (by kernel_rfl) ?_
        repeat (go_big_quiet_step (exact cQ _ _))
        refine wpQuiet_nil ?_
        intro _ hw'
        obtain ⟨⟨dq, osq⟩, hw''⟩ := hw'
        subst hw''
        have bq := below_regrown wr dq osq
        go_wp2
        exact ⟨⟨j + 1, by omega, by simp, bstep KD.out.1 bq, hon.out⟩, by simp [intOf]; omega⟩
  obtain rfl : r = k.places.length := by omega
  have hdl : decide ((k.places.length : Int) < (k.places.length : Int)) = false := by simp
  have HC3 : Hid (clusterB k = txsB k) := by unfold Hid; rw [HC2.out, placedB, KC.out.2]; simp
  go_wp2
  generalize wr = wB at *
  clear hdl p2
  go_loopw [8] (fun v8 wr => ∃ i : Nat, i ≤ k.txs.length ∧ v8 = .int .i64 i ∧ Below U.heap.size U wr ∧ (List.range i).all (txAtB k) = true) (fun v8 _ => k.txs.length - (intOf v8).toNat)
  case atStart => exact ⟨0, Nat.zero_le _, rfl, KC.out.1, rfl⟩
  case round =>
  obtain ⟨i, hi, rfl, hbl, hall⟩ := hrel
  have KE : Hid (Below U.heap.size U wr ∧ (List.range i).all (txAtB k) = true) := ⟨hbl, hall⟩
  clear hbl hall
  have p4 := (FA.out.later KE.out.1).1 4 _ rfl
  by_cases hlt : i < k.txs.length
  case neg =>
    obtain rfl : i = k.txs.length := by omega
    have hdl : decide ((k.txs.length : Int) < (k.txs.length : Int)) = false := by simp
    have hb0 : Hid (clusterB k = true) := by unfold Hid; rw [HC3.out]; exact KE.out.2
    go_wp2
    go_ret
    exact ⟨by rw [hb0.out]; rfl, BF.out _ KE.out.1⟩
  have hd := atT_of hlt
  have HM : Hid (i = 0 ∨ ∃ j, i = j + 1 ∧ k.txs[j]? = some (atT k.txs j)) := by
    rcases i with _ | j
    · exact .inl rfl
    · exact .inr ⟨j, rfl, atT_of (by omega)⟩
  rcases HR.out.1.t with hs | ⟨b, off, rfl, hb, h1⟩
  · rw [hs] at hlt; simp at hlt
  have HX : Hid (txAtB k i = (tx.txB (atT k.txs i) && (decide (i = 0) || decide ((atT k.txs (i - 1)).id < (atT k.txs i).id)) && decide ((atT k.txs i).home < (k.machines.length : Int)) && decide ((atT k.txs i).stamp ≤ k.clock) && readsB k.places.length (atT k.txs i).reads && setsB k.places.length (atT k.txs i).sets)) := rfl
  have HFF : Hid (txAtB k i = false → clusterB k = false) := fun hh => by rw [HC3.out, txsB]; exact all_off (f := txAtB k) hlt hh
  have HON : Hid (txAtB k i = true → (List.range (i + 1)).all (txAtB k) = true) := fun hh => all_on (f := txAtB k) KE.out.2 hh
  obtain ⟨⟨t0, t1, t2, t3⟩, hat, hrd⟩ := h1 i _ hd
  have hTL := HR.out.2.ts _ (List.mem_of_getElem? hd)
  have HP : Hid (∀ j, i = j + 1 → U.cell? ⟨b, off + j * 7, none⟩ = some (.int .i64 (atT k.txs j).id)) := fun j e => by
    obtain ⟨v, hat', _⟩ := h1 j _ (atT_of (by omega))
    exact hat' 0 _ rfl
  generalize ht : atT k.txs i = t at *
  have e0 : wr.cell? ⟨b, off + i * 7, none⟩ = some (.int .i64 t.id) := (KE.out.1.cell (p := ⟨b, off + i * 7, none⟩) hb).trans (hat 0 _ rfl)
  have e1 : wr.cell? ⟨b, off + i * 7 + 1, none⟩ = some (.int .i64 t.home) := (KE.out.1.cell (p := ⟨b, off + i * 7 + 1, none⟩) hb).trans (hat 1 _ rfl)
  have e2 : wr.cell? ⟨b, off + i * 7 + 2, none⟩ = some (.int .i64 t.phase) := (KE.out.1.cell (p := ⟨b, off + i * 7 + 2, none⟩) hb).trans (hat 2 _ rfl)
  have e3 : wr.cell? ⟨b, off + i * 7 + 3, none⟩ = some (.int .i64 t.count) := (KE.out.1.cell (p := ⟨b, off + i * 7 + 3, none⟩) hb).trans (hat 3 _ rfl)
  have e4 : wr.cell? ⟨b, off + i * 7 + 4, none⟩ = some (.slice t0 t.reads.length t1) := (KE.out.1.cell (p := ⟨b, off + i * 7 + 4, none⟩) hb).trans (hat 4 _ rfl)
  have e5 : wr.cell? ⟨b, off + i * 7 + 5, none⟩ = some (.slice t2 t.sets.length t3) := (KE.out.1.cell (p := ⟨b, off + i * 7 + 5, none⟩) hb).trans (hat 5 _ rfl)
  have e6 : wr.cell? ⟨b, off + i * 7 + 6, none⟩ = some (.int .i64 t.stamp) := (KE.out.1.cell (p := ⟨b, off + i * 7 + 6, none⟩) hb).trans (hat 6 _ rfl)
  obtain ⟨V, hV⟩ : ∃ Y, Y = wr.alloc (.cells #[.int .i64 t.id, .int .i64 t.home, .int .i64 t.phase, .int .i64 t.count, .slice t0 t.reads.length t1, .slice t2 t.sets.length t3, .int .i64 t.stamp] 56) := ⟨_, rfl⟩
  have bV : Below wr.heap.size wr V := by rw [hV]; exact (Below.refl _ _).alloc (Nat.le_refl _) _
  have FT : Hid (Bx V wr.heap.size [.int .i64 t.id, .int .i64 t.home, .int .i64 t.phase, .int .i64 t.count, .slice t0 t.reads.length t1, .slice t2 t.sets.length t3, .int .i64 t.stamp]) := by rw [hV]; exact Bx.made wr [.int .i64 t.id, .int .i64 t.home, .int .i64 t.phase, .int .i64 t.count, .slice t0 t.reads.length t1, .slice t2 t.sets.length t3, .int .i64 t.stamp] _
  have KV : Hid (Below U.heap.size U V) := bstep KE.out.1 bV
  have HRT : Hid (tx.SlT U ⟨t0, t1, t2, t3⟩ t ∧ tx.TL t) := ⟨hrd, hTL⟩
  have ji : (i : Int) < (k.txs.length : Int) := by omega
  clear hat hrd h1 hd hTL bV
  go_upto_region 22 with fail
  rw [← hV]
  clear hV p4 e0 e1 e2 e3 e4 e5 e6 ji
  generalize wr.heap.size = s9 at *
  generalize wr = wD at *
  generalize V = wr at *
  have f0 : ∀ dd os, (grow (redrawn wr dd) os).cell? ⟨s9, 0, none⟩ = some (.int .i64 t.id) := fun dd os => (FT.out.later (below_regrown wr dd os)).1 0 _ rfl
  have f1 : ∀ dd os, (grow (redrawn wr dd) os).cell? ⟨s9, 1, none⟩ = some (.int .i64 t.home) := fun dd os => (FT.out.later (below_regrown wr dd os)).1 1 _ rfl
  have f2 : ∀ dd os, (grow (redrawn wr dd) os).cell? ⟨s9, 2, none⟩ = some (.int .i64 t.phase) := fun dd os => (FT.out.later (below_regrown wr dd os)).1 2 _ rfl
  have f3 : ∀ dd os, (grow (redrawn wr dd) os).cell? ⟨s9, 3, none⟩ = some (.int .i64 t.count) := fun dd os => (FT.out.later (below_regrown wr dd os)).1 3 _ rfl
  have f4 : ∀ dd os, (grow (redrawn wr dd) os).cell? ⟨s9, 4, none⟩ = some (.slice t0 t.reads.length t1) := fun dd os => (FT.out.later (below_regrown wr dd os)).1 4 _ rfl
  have f5 : ∀ dd os, (grow (redrawn wr dd) os).cell? ⟨s9, 5, none⟩ = some (.slice t2 t.sets.length t3) := fun dd os => (FT.out.later (below_regrown wr dd os)).1 5 _ rfl
  have f6 : ∀ dd os, (grow (redrawn wr dd) os).cell? ⟨s9, 6, none⟩ = some (.int .i64 t.stamp) := fun dd os => (FT.out.later (below_regrown wr dd os)).1 6 _ rfl
  have cT : ∀ dd os, Calls Tryz.prog 81 #[.agg #[.int .i64 t.id, .int .i64 t.home, .int .i64 t.phase, .int .i64 t.count, .slice t0 t.reads.length t1, .slice t2 t.sets.length t3, .int .i64 t.stamp]] (grow (redrawn wr dd) os) fun e w'' => e = .returned (.bool (tx.txB t)) ∧ ∃ p : Regrown, w'' = grow (redrawn wr p.d) p.os := fun dd os => by
    have hh := tx.specTxOk_any (grow (redrawn wr dd) os) ⟨t0, t1, t2, t3⟩ t HRT.out.2 (HRT.out.1.later (bstep KV.out (below_regrown wr dd os)))
    simp only [tx.TV.val] at hh
    exact Calls.regrown_of hh
  have hbx := FA.out.1 4 _ rfl
  have x4 : ∀ dd os, (grow (redrawn wr dd) os).cell? ⟨w.heap.size, 4, none⟩ = some (.slice (some ⟨b, off, none⟩) k.txs.length c3) := fun dd os => ((bstep KV.out (below_regrown wr dd os)).cell (p := ⟨w.heap.size, 4, none⟩) FA.out.2.2).trans (hbx)
  have hbx := FA.out.1 1 _ rfl
  have x1 : ∀ dd os, (grow (redrawn wr dd) os).cell? ⟨w.heap.size, 1, none⟩ = some (.int .i64 k.clock) := fun dd os => ((bstep KV.out (below_regrown wr dd os)).cell (p := ⟨w.heap.size, 1, none⟩) FA.out.2.2).trans (hbx)
  clear hbx
  have KD : Hid (Below U.heap.size U wr ∧ True) := ⟨KV.out, trivial⟩
  cases hB : tx.txB t with
  | false =>
    rw [hB] at cT
    have hb0 : Hid (clusterB k = false) := HFF.out (by rw [HX.out, hB]; rfl)
    go_wp2_with fail
    refine wp_region_quiet_below (by kernel_rfl) (by kernel_rfl) ?_
    repeat (go_big_quiet_step (exact cT _ _))
    refine wpQuiet_nil ?_
    intro _ hw'
    obtain ⟨⟨dq, osq⟩, hw''⟩ := hw'
    subst hw''
    have bq := below_regrown wr dq osq
    go_wp2
    go_ret
    exact ⟨by rw [hb0.out]; rfl, BF.out _ (bstep KD.out.1 bq)⟩
  | true =>
  rw [hB] at cT
  by_cases gi : i = 0 ∨ (atT k.txs (i - 1)).id < t.id
  case neg =>
    obtain ⟨j, rfl, -⟩ := HM.out.resolve_left (fun e => gi (.inl e))
    have hle : ¬ (atT k.txs j).id < t.id := fun e => gi (.inr e)
    have hid := HP.out j rfl
    have xj : ∀ dd os, (grow (redrawn wr dd) os).cell? ⟨b, off + j * 7, none⟩ = some (.int .i64 (atT k.txs j).id) := fun dd os => ((bstep KV.out (below_regrown wr dd os)).cell (p := ⟨b, off + j * 7, none⟩) hb).trans (hid)
    have d0 : decide ((0 : Int) < ((j + 1 : Nat) : Int)) = true := by simp <;> omega
    have ej : ((j + 1 : Nat) : Int) - 1 = (j : Int) := by omega
    have d1 : decide (t.id ≤ (atT k.txs j).id) = true := by simp <;> omega
    have jn : (j : Int) < (k.txs.length : Int) := by omega
    have hb0 : Hid (clusterB k = false) := HFF.out (by rw [HX.out]; simp [hle])
    clear hid gi hle
    go_wp2_with fail
    refine wp_region_quiet_below (by kernel_rfl) (by kernel_rfl) ?_
    repeat (go_big_quiet_step (exact cT _ _))
    refine wpQuiet_nil ?_
    intro _ hw'
    obtain ⟨⟨dq, osq⟩, hw''⟩ := hw'
    subst hw''
    have bq := below_regrown wr dq osq
    go_wp2
    go_ret
    exact ⟨by rw [hb0.out]; rfl, BF.out _ (bstep KD.out.1 bq)⟩
  by_cases gh : t.home < (k.machines.length : Int)
  case neg =>
    have dh : decide ((k.machines.length : Int) ≤ t.home) = true := by simp <;> omega
    have hb0 : Hid (clusterB k = false) := HFF.out (by rw [HX.out]; simp [gh])
    rcases HM.out with rfl | ⟨j, rfl, -⟩
    · have d0 : decide ((0 : Int) < ((0 : Nat) : Int)) = false := by simp
      go_wp2_with fail
      refine wp_region_quiet_below (by kernel_rfl) (by kernel_rfl) ?_
      repeat (go_big_quiet_step (exact cT _ _))
      refine wpQuiet_nil ?_
      intro _ hw'
      obtain ⟨⟨dq, osq⟩, hw''⟩ := hw'
      subst hw''
      have bq := below_regrown wr dq osq
      go_wp2
      go_ret
      exact ⟨by rw [hb0.out]; rfl, BF.out _ (bstep KD.out.1 bq)⟩
    · have hlt' : (atT k.txs j).id < t.id := by rcases gi with e | e; omega; exact e
      have hid := HP.out j rfl
      have xj : ∀ dd os, (grow (redrawn wr dd) os).cell? ⟨b, off + j * 7, none⟩ = some (.int .i64 (atT k.txs j).id) := fun dd os => ((bstep KV.out (below_regrown wr dd os)).cell (p := ⟨b, off + j * 7, none⟩) hb).trans (hid)
      have d0 : decide ((0 : Int) < ((j + 1 : Nat) : Int)) = true := by simp <;> omega
      have ej : ((j + 1 : Nat) : Int) - 1 = (j : Int) := by omega
      have d1 : decide (t.id ≤ (atT k.txs j).id) = false := by simp <;> omega
      have jn : (j : Int) < (k.txs.length : Int) := by omega
      clear hid hlt'
      go_wp2_with fail
      refine wp_region_quiet_below (by kernel_rfl) (by kernel_rfl) ?_
      repeat (go_big_quiet_step (exact cT _ _))
      refine wpQuiet_nil ?_
      intro _ hw'
      obtain ⟨⟨dq, osq⟩, hw''⟩ := hw'
      subst hw''
      have bq := below_regrown wr dq osq
      go_wp2
      go_ret
      exact ⟨by rw [hb0.out]; rfl, BF.out _ (bstep KD.out.1 bq)⟩
  have dh : decide ((k.machines.length : Int) ≤ t.home) = false := by simp <;> omega
  by_cases gs : t.stamp ≤ k.clock
  case neg =>
    have ds : decide (k.clock < t.stamp) = true := by simp <;> omega
    have hb0 : Hid (clusterB k = false) := HFF.out (by rw [HX.out]; simp [gs])
    rcases HM.out with rfl | ⟨j, rfl, -⟩
    · have d0 : decide ((0 : Int) < ((0 : Nat) : Int)) = false := by simp
      go_wp2_with fail
      refine wp_region_quiet_below (by kernel_rfl) (by kernel_rfl) ?_
      repeat (go_big_quiet_step (exact cT _ _))
      refine wpQuiet_nil ?_
      intro _ hw'
      obtain ⟨⟨dq, osq⟩, hw''⟩ := hw'
      subst hw''
      have bq := below_regrown wr dq osq
      go_wp2
      go_ret
      exact ⟨by rw [hb0.out]; rfl, BF.out _ (bstep KD.out.1 bq)⟩
    · have hlt' : (atT k.txs j).id < t.id := by rcases gi with e | e; omega; exact e
      have hid := HP.out j rfl
      have xj : ∀ dd os, (grow (redrawn wr dd) os).cell? ⟨b, off + j * 7, none⟩ = some (.int .i64 (atT k.txs j).id) := fun dd os => ((bstep KV.out (below_regrown wr dd os)).cell (p := ⟨b, off + j * 7, none⟩) hb).trans (hid)
      have d0 : decide ((0 : Int) < ((j + 1 : Nat) : Int)) = true := by simp <;> omega
      have ej : ((j + 1 : Nat) : Int) - 1 = (j : Int) := by omega
      have d1 : decide (t.id ≤ (atT k.txs j).id) = false := by simp <;> omega
      have jn : (j : Int) < (k.txs.length : Int) := by omega
      clear hid hlt'
      go_wp2_with fail
      refine wp_region_quiet_below (by kernel_rfl) (by kernel_rfl) ?_
      repeat (go_big_quiet_step (exact cT _ _))
      refine wpQuiet_nil ?_
      intro _ hw'
      obtain ⟨⟨dq, osq⟩, hw''⟩ := hw'
      subst hw''
      have bq := below_regrown wr dq osq
      go_wp2
      go_ret
      exact ⟨by rw [hb0.out]; rfl, BF.out _ (bstep KD.out.1 bq)⟩
  have ds : decide (k.clock < t.stamp) = false := by simp <;> omega
  have HY : Hid (txAtB k i = (readsB k.places.length t.reads && setsB k.places.length t.sets)) := by
    unfold Hid
    rw [HX.out]
    rcases gi with gi | gi <;> simp [hB, gi, gh, gs]
  have lr := HRT.out.2.r
  have ls := HRT.out.2.s
  unfold maxLen at lr ls
  have CUT : Hid (∀ X, Below wr.heap.size wr X → Below U.heap.size U X) := fun X hX => bstep KV.out hX
  go_cut [149] from 118 to 149 (fun s149 wx => s149 = .bool false ∧ Below wr.heap.size wr wx)
  case first =>
    rcases HM.out with rfl | ⟨j, rfl, -⟩
    · have d0 : decide ((0 : Int) < ((0 : Nat) : Int)) = false := by simp
      go_wp2_with fail
      refine wp_region_quiet_below (by kernel_rfl) (by kernel_rfl) ?_
      repeat (go_big_quiet_step (exact cT _ _))
      refine wpQuiet_nil ?_
      intro _ hw'
      obtain ⟨⟨dq, osq⟩, hw''⟩ := hw'
      subst hw''
      have bq := below_regrown wr dq osq
      go_wp2_with fail
      go_meet
      exact ⟨rfl, bq⟩
    · have hlt' : (atT k.txs j).id < t.id := by rcases gi with e | e; omega; exact e
      have hid := HP.out j rfl
      have xj : ∀ dd os, (grow (redrawn wr dd) os).cell? ⟨b, off + j * 7, none⟩ = some (.int .i64 (atT k.txs j).id) := fun dd os => ((bstep KV.out (below_regrown wr dd os)).cell (p := ⟨b, off + j * 7, none⟩) hb).trans (hid)
      have d0 : decide ((0 : Int) < ((j + 1 : Nat) : Int)) = true := by simp <;> omega
      have ej : ((j + 1 : Nat) : Int) - 1 = (j : Int) := by omega
      have d1 : decide (t.id ≤ (atT k.txs j).id) = false := by simp <;> omega
      have jn : (j : Int) < (k.txs.length : Int) := by omega
      clear hid hlt'
      go_wp2_with fail
      refine wp_region_quiet_below (by kernel_rfl) (by kernel_rfl) ?_
      repeat (go_big_quiet_step (exact cT _ _))
      refine wpQuiet_nil ?_
      intro _ hw'
      obtain ⟨⟨dq, osq⟩, hw''⟩ := hw'
      subst hw''
      have bq := below_regrown wr dq osq
      go_wp2_with fail
      go_meet
      exact ⟨rfl, bq⟩
  case rest =>
  obtain ⟨rfl, bx⟩ := hcut
  have KW : Hid (Below wr.heap.size wr wc ∧ Below U.heap.size U wc) := ⟨bx, bstep KV.out bx⟩
  clear bx f0 f1 f2 f3 f4 f5 f6 cT x4 x1 dh ds KD
  generalize wc = wE at *
  go_wp2
  generalize wr = wF at *
  go_loopw [10] (fun v wr => ∃ j : Nat, j ≤ t.reads.length ∧ v = .int .i64 j ∧ Below wF.heap.size wF wr ∧ (List.range j).all (fun j => decide ((tx.atNo t.reads j).region < (k.places.length : Int))) = true) (fun v _ => t.reads.length - (intOf v).toNat)
  case atStart => exact ⟨0, Nat.zero_le _, rfl, KW.out.1, rfl⟩
  case round =>
  obtain ⟨j, hj, rfl, hbl, hall⟩ := hrel
  have KD : Hid (Below U.heap.size U wr ∧ Below wF.heap.size wF wr ∧ (List.range j).all (fun j => decide ((tx.atNo t.reads j).region < (k.places.length : Int))) = true) := ⟨CUT.out _ hbl, hbl, hall⟩
  clear hbl hall
  have p9 := (FT.out.later KD.out.2.1).1 4 _ rfl
  by_cases hlj : j < t.reads.length
  case pos =>
    obtain ⟨_, hsn⟩ := HRT.out.1.r
    dsimp only at hsn
    rcases hsn with hsn | ⟨b', off', rfl, hb', h2⟩
    · omega
    have hck := (h2 j _ (tx.atNo_of hlj)).c0
    have xz : ∀ dd os, (grow (redrawn wr dd) os).cell? ⟨b', off' + j * 5, none⟩ = some (.int .i64 (tx.atNo t.reads j).region) := fun dd os => ((bstep KD.out.1 (below_regrown wr dd os)).cell (p := ⟨b', off' + j * 5, none⟩) hb').trans (hck)
    have hbx := FA.out.1 2 _ rfl
    have x2 : ∀ dd os, (grow (redrawn wr dd) os).cell? ⟨w.heap.size, 2, none⟩ = some (.slice a1 k.places.length c1) := fun dd os => ((bstep KD.out.1 (below_regrown wr dd os)).cell (p := ⟨w.heap.size, 2, none⟩) FA.out.2.2).trans (hbx)
    have x9 : ∀ dd os, (grow (redrawn wr dd) os).cell? ⟨s9, 4, none⟩ = some (.slice (some ⟨b', off', none⟩) t.reads.length t1) := fun dd os => (FT.out.later (bstep KD.out.2.1 (below_regrown wr dd os))).1 4 _ rfl
    have jz : (j : Int) < (t.reads.length : Int) := by omega
    clear hck h2 hbx
    by_cases hz : (tx.atNo t.reads j).region < (k.places.length : Int)
    case neg =>
      have dz : decide ((k.places.length : Int) ≤ (tx.atNo t.reads j).region) = true := by simp <;> omega
      have hb0 : Hid (clusterB k = false) := HFF.out (by rw [HY.out, readsB, all_off (f := fun j => decide ((tx.atNo t.reads j).region < (k.places.length : Int))) hlj (by simpa using hz)]; simp)
      go_wp2_with fail
      refine wp_region_quiet_below (by kernel_rfl) (by kernel_rfl) ?_
      repeat (go_big_quiet_step (fail))
      refine wpQuiet_nil ?_
      intro _ hw'
      obtain ⟨⟨dq, osq⟩, hw''⟩ := hw'
      subst hw''
      have bq := below_regrown wr dq osq
      go_wp2
      go_ret
      exact ⟨by rw [hb0.out]; rfl, BF.out _ (bstep KD.out.1 bq)⟩
    have dz : decide ((k.places.length : Int) ≤ (tx.atNo t.reads j).region) = false := by simp <;> omega
    have hon : Hid ((List.range (j + 1)).all (fun j => decide ((tx.atNo t.reads j).region < (k.places.length : Int))) = true) := all_on (f := fun j => decide ((tx.atNo t.reads j).region < (k.places.length : Int))) KD.out.2.2 (by simpa using hz)
    go_wp2_with fail
    refine wp_region_quiet_below (by kernel_rfl) (by kernel_rfl) ?_
    repeat (go_big_quiet_step (fail))
    refine wpQuiet_nil ?_
    intro _ hw'
    obtain ⟨⟨dq, osq⟩, hw''⟩ := hw'
    subst hw''
    have bq := below_regrown wr dq osq
    go_wp2
    exact ⟨⟨j + 1, by omega, by simp, bstep KD.out.2.1 bq, hon.out⟩, by simp [intOf]; omega⟩
  obtain rfl : j = t.reads.length := by omega
  have hdl : decide ((t.reads.length : Int) < (t.reads.length : Int)) = false := by simp
  have HY2 : Hid (txAtB k i = setsB k.places.length t.sets) := by unfold Hid; rw [HY.out, readsB, KD.out.2.2]; simp
  have KX : Hid (Below wF.heap.size wF wr) := KD.out.2.1
  go_wp2
  clear p9 hdl
  generalize wr = wG at *
  go_loopw [11] (fun v wr => ∃ j : Nat, j ≤ t.sets.length ∧ v = .int .i64 j ∧ Below wF.heap.size wF wr ∧ (List.range j).all (fun j => decide ((tx.atSe t.sets j).region < (k.places.length : Int))) = true) (fun v _ => t.sets.length - (intOf v).toNat)
  case atStart => exact ⟨0, Nat.zero_le _, rfl, KX.out, rfl⟩
  case round =>
  obtain ⟨j, hj, rfl, hbl, hall⟩ := hrel
  have KD : Hid (Below U.heap.size U wr ∧ Below wF.heap.size wF wr ∧ (List.range j).all (fun j => decide ((tx.atSe t.sets j).region < (k.places.length : Int))) = true) := ⟨CUT.out _ hbl, hbl, hall⟩
  clear hbl hall
  have p9 := (FT.out.later KD.out.2.1).1 5 _ rfl
  by_cases hlj : j < t.sets.length
  case pos =>
    obtain ⟨_, hsn⟩ := HRT.out.1.s
    dsimp only at hsn
    rcases hsn with hsn | ⟨b', off', rfl, hb', h2⟩
    · omega
    have hck := (h2 j _ (tx.atSe_of hlj)).c0
    have xz : ∀ dd os, (grow (redrawn wr dd) os).cell? ⟨b', off' + j * 5, none⟩ = some (.int .i64 (tx.atSe t.sets j).region) := fun dd os => ((bstep KD.out.1 (below_regrown wr dd os)).cell (p := ⟨b', off' + j * 5, none⟩) hb').trans (hck)
    have hbx := FA.out.1 2 _ rfl
    have x2 : ∀ dd os, (grow (redrawn wr dd) os).cell? ⟨w.heap.size, 2, none⟩ = some (.slice a1 k.places.length c1) := fun dd os => ((bstep KD.out.1 (below_regrown wr dd os)).cell (p := ⟨w.heap.size, 2, none⟩) FA.out.2.2).trans (hbx)
    have x9 : ∀ dd os, (grow (redrawn wr dd) os).cell? ⟨s9, 5, none⟩ = some (.slice (some ⟨b', off', none⟩) t.sets.length t3) := fun dd os => (FT.out.later (bstep KD.out.2.1 (below_regrown wr dd os))).1 5 _ rfl
    have jz : (j : Int) < (t.sets.length : Int) := by omega
    clear hck h2 hbx
    by_cases hz : (tx.atSe t.sets j).region < (k.places.length : Int)
    case neg =>
      have dz : decide ((k.places.length : Int) ≤ (tx.atSe t.sets j).region) = true := by simp <;> omega
      have hb0 : Hid (clusterB k = false) := HFF.out (by rw [HY2.out, setsB, all_off (f := fun j => decide ((tx.atSe t.sets j).region < (k.places.length : Int))) hlj (by simpa using hz)])
      go_wp2_with fail
      refine wp_region_quiet_below (by kernel_rfl) (by kernel_rfl) ?_
      repeat (go_big_quiet_step (fail))
      refine wpQuiet_nil ?_
      intro _ hw'
      obtain ⟨⟨dq, osq⟩, hw''⟩ := hw'
      subst hw''
      have bq := below_regrown wr dq osq
      go_wp2
      go_ret
      exact ⟨by rw [hb0.out]; rfl, BF.out _ (bstep KD.out.1 bq)⟩
    have dz : decide ((k.places.length : Int) ≤ (tx.atSe t.sets j).region) = false := by simp <;> omega
    have hon : Hid ((List.range (j + 1)).all (fun j => decide ((tx.atSe t.sets j).region < (k.places.length : Int))) = true) := all_on (f := fun j => decide ((tx.atSe t.sets j).region < (k.places.length : Int))) KD.out.2.2 (by simpa using hz)
    go_wp2_with fail
    refine wp_region_quiet_below (by kernel_rfl) (by kernel_rfl) ?_
    repeat (go_big_quiet_step (fail))
    refine wpQuiet_nil ?_
    intro _ hw'
    obtain ⟨⟨dq, osq⟩, hw''⟩ := hw'
    subst hw''
    have bq := below_regrown wr dq osq
    go_wp2
    exact ⟨⟨j + 1, by omega, by simp, bstep KD.out.2.1 bq, hon.out⟩, by simp [intOf]; omega⟩
  obtain rfl : j = t.sets.length := by omega
  have hdl : decide ((t.sets.length : Int) < (t.sets.length : Int)) = false := by simp
  have hh := HON.out (by rw [HY2.out, setsB]; exact KD.out.2.2)
  go_wp2
  exact ⟨⟨i + 1, by omega, by simp, KD.out.1, hh⟩, by simp [intOf]; omega⟩
end Go.Proofs.YtnhjgomfkfehgaaGreatDoor
namespace Go.Proofs.YtnhjgomfkfehgaaGreatDoor
open Go.RowKit Go.Extern.Stop Go.Stop Go.Extern
theorem run_storeCells (P : Program) (t : Nat) (cs : List Value) : ∀ (W : World) (i : Nat), (∀ u ∈ cs, u.oneCell' = true) → (∀ j, i ≤ j → j < i + cs.length → (∃ v, W.cell? ⟨t, j, none⟩ = some v) ∧ W.frozen? ⟨t, j, none⟩ = false) → (storeCells ⟨t, 0, none⟩ cs i).run P W = .ok () (putB W t i cs) := by
  induction cs with
  | nil => intro W i _ _; rfl
  | cons c cs ih =>
    intro W i h1 h2
    obtain ⟨⟨v, hv⟩, hf⟩ := h2 i (Nat.le_refl _) (by simp)
    have hadd : (⟨t, 0, none⟩ : Addr).add i = ⟨t, i, none⟩ := by unfold Addr.add; split <;> simp_all
    have hst : (store ⟨t, i, none⟩ c).run P W = .ok () (W.setCell ⟨t, i, none⟩ c) := by
      rw [run_store P W ⟨t, i, none⟩ c _ (h1 c (by simp))]
      simp [hv, hf]
    have hr := ih (W.setCell ⟨t, i, none⟩ c) (i + 1) (fun u hu => h1 u (by simp [hu])) (fun j hj hl => by
      obtain ⟨⟨v', hv'⟩, hf'⟩ := h2 j (by omega) (by simp only [List.length_cons]; omega)
      exact ⟨⟨v', (cell_set_other (by omega)).trans hv'⟩, by rw [World.frozen?_setCell]; exact hf'⟩)
    rw [storeCells, hadd, Sem.run_bind, hst]
    simp only [Result.andThen]
    rw [hr, putB]
theorem run_loadCellsFrom (P : Program) (b : Nat) (W : World) (cs : List Value) : ∀ (i : Nat) (acc : Array Value), (∀ j u, cs[j]? = some u → W.cell? ⟨b, i + j, none⟩ = some u) → (loadCellsFrom ⟨b, 0, none⟩ i cs.length acc).run P W = .ok (acc ++ cs.toArray) W := by
  induction cs with
  | nil => intro i acc _; simp [loadCellsFrom]
  | cons c cs ih =>
    intro i acc h
    have hadd : (⟨b, 0, none⟩ : Addr).add i = ⟨b, i, none⟩ := by unfold Addr.add; split <;> simp_all
    have h0 : W.cell? ⟨b, i, none⟩ = some c := by simpa using h 0 c rfl
    have hl : (load ⟨b, i, none⟩).run P W = .ok c W := by simp [h0]
    have hr := ih (i + 1) (acc.push c) (fun j u hu => by have := h (j + 1) u (by simpa using hu); rwa [show i + (j + 1) = i + 1 + j by omega] at this)
    rw [List.length_cons, loadCellsFrom, hadd, Sem.run_bind, hl]
    simp only [Result.andThen]
    rw [hr]
    simp
theorem run_loadCells (P : Program) (b : Nat) (W : World) (cs : List Value) (h : ∀ j u, cs[j]? = some u → W.cell? ⟨b, j, none⟩ = some u) : (loadCells ⟨b, 0, none⟩ cs.length).run P W = .ok cs.toArray W := by
  have := run_loadCellsFrom P b W cs 0 #[] (fun j u hu => by rw [Nat.zero_add]; exact h j u hu)
  rw [loadCells, this]
  simp
namespace ea
def hd (t : Nat) : Value := .pointer (some ⟨1, t, none⟩)
theorem methodKind (h : Value) (w : World) : (Go.method 470 278 (.agg #[h]) "Kind").run Tryz.prog w = .ok (318, h) w := by kernel_rfl
theorem methodElem (h : Value) (w : World) : (Go.method 470 278 (.agg #[h]) "Elem").run Tryz.prog w = .ok (336, .agg #[h]) w := by kernel_rfl
theorem methodImplements (h : Value) (w : World) : (Go.method 470 278 (.agg #[h]) "Implements").run Tryz.prog w = .ok (337, .agg #[h]) w := by kernel_rfl
theorem methodAssignableTo (h : Value) (w : World) : (Go.method 470 278 (.agg #[h]) "AssignableTo").run Tryz.prog w = .ok (334, .agg #[h]) w := by kernel_rfl
theorem rlm (z : Sem Value) (f : TypeId → Addr → Nat → Nat → Sem Value) (v : Value) :
    ReflectliteValue.method z f #[v] = (do match ← ReflectliteValue.parts v with | none => z | some (t, a, fl) => f t a fl (fl % 32)) := rfl
theorem rls (v x : Value) : ReflectliteValue.set #[v, x] = (do
    let (some (dst, a, fl), some (src, b, _)) := (← ReflectliteValue.parts v, ← ReflectliteValue.parts x)
      | unsupported (.noEntry "extern/(internal/reflectlite.Value).Set.zeroValue")
    if fl / ReflectliteValue.flagAddr % 2 == 0 then unsupported (.noEntry "extern/(internal/reflectlite.Value).Set.unaddressable")
    let val ← loadVar src b
    if ← Rtype.directlyAssignable dst src then storeVar dst a val
    else if ← Rtype.implements dst src then
      if (← Rtype.kind src) == 20 then
        match val with
        | .nilIface => unsupported (.noEntry "extern/reflectlite: a nil value of one interface type handed on as a value of another")
        | _ => storeVar dst a val
      else storeVar dst a (.iface src val)
    else panicString ("reflectlite.Set: value of type " ++ (← Rtype.spelt src) ++ " is not assignable to type " ++ (← Rtype.spelt dst))
    pure (.tuple #[])) := rfl
theorem valueOfPR (t : Addr) (w : World) : (ReflectliteValue.unpack (.iface 188 (.pointer (some t)))).run Tryz.prog w
    = .ok (.agg #[.pointer (some ⟨1, 188, none⟩), .pointer (some ⟨w.heap.size, 0, none⟩), .int .u64 150]) (w.alloc (.cells #[.pointer (some t)] 188)) := by kernel_rfl
theorem typePR (a : Addr) (w : World) : (ReflectliteValue.methodAny (ReflectliteValue.valueError "reflectlite.Value.Type" 0) (fun t _ _ _ => ReflectliteType.toType t) #[.agg #[.pointer (some ⟨1, 188, none⟩), .pointer (some a), .int .u64 150]]).run Tryz.prog w
    = .ok (.iface 278 (.agg #[.pointer (some ⟨1, 188, none⟩)])) w := by kernel_rfl
theorem kindPR (w : World) : ((ReflectliteType.abiMethod fun t => (fun a : Nat => Value.int IntKind.u8 (a : Int)) <$> Rtype.kind t) #[.pointer (some ⟨1, 188, none⟩)]).run Tryz.prog w = .ok (.int .u8 22) w := by kernel_rfl
theorem kindR (w : World) : ((ReflectliteType.abiMethod fun t => (fun a : Nat => Value.int IntKind.u8 (a : Int)) <$> Rtype.kind t) #[.pointer (some ⟨1, 157, none⟩)]).run Tryz.prog w = .ok (.int .u8 25) w := by kernel_rfl
theorem partsPR (a : Addr) (w : World) : (ReflectliteValue.parts (.agg #[.pointer (some ⟨1, 188, none⟩), .pointer (some a), .int .u64 150])).run Tryz.prog w = .ok (some (188, a, 150)) w := by kernel_rfl
theorem isNilPR (a p : Addr) (W : World) (ha : W.cell? a = some (.pointer (some p))) :
    (ReflectliteValue.method (ReflectliteValue.valueError "reflectlite.Value.IsNil" 0) ReflectliteValue.isNil #[.agg #[.pointer (some ⟨1, 188, none⟩), .pointer (some a), .int .u64 150]]).run Tryz.prog W = .ok (.bool false) W := by
  rw [rlm]
  simp only [Sem.run_bind, partsPR, Result.andThen]
  simp [ReflectliteValue.isNil, loadVar, isAgg, underlying, Tryz.underlying188, ha, Result.andThen]
theorem elemPR (w : World) : (ReflectliteType.method ReflectliteType.elem #[.agg #[.pointer (some ⟨1, 188, none⟩)]]).run Tryz.prog w = .ok (.iface 278 (.agg #[.pointer (some ⟨1, 157, none⟩)])) w := by kernel_rfl
theorem implementsR (w : World) : (ReflectliteType.relation "Implements" ReflectliteType.implements_ #[.agg #[.pointer (some ⟨1, 157, none⟩)], .iface 278 (.agg #[.pointer (some ⟨1, 155, none⟩)])]).run Tryz.prog w = .ok (.bool true) w := by kernel_rfl
theorem typeOfR (v : Value) (w : World) : (ReflectliteType.typeOf #[.iface 157 v]).run Tryz.prog w = .ok (.iface 278 (.agg #[.pointer (some ⟨1, 157, none⟩)])) w := by kernel_rfl
theorem assignableR (w : World) : (ReflectliteType.relation "AssignableTo" ReflectliteType.assignableTo #[.agg #[.pointer (some ⟨1, 157, none⟩)], .iface 278 (.agg #[.pointer (some ⟨1, 157, none⟩)])]).run Tryz.prog w = .ok (.bool true) w := by kernel_rfl
theorem elemOfPR (w : World) : (Rtype.elem? 188).run Tryz.prog w = .ok (some 157) w := by kernel_rfl
theorem mkR (p : Addr) (w : World) : (ReflectliteValue.mk 157 p ReflectliteValue.flagAddr).run Tryz.prog w = .ok (.agg #[.pointer (some ⟨1, 157, none⟩), .pointer (some p), .int .u64 409]) w := by kernel_rfl
theorem elemVPR (a p : Addr) (W : World) (ha : W.cell? a = some (.pointer (some p))) :
    (ReflectliteValue.method (ReflectliteValue.valueError "reflectlite.Value.Elem" 0) ReflectliteValue.elem #[.agg #[.pointer (some ⟨1, 188, none⟩), .pointer (some a), .int .u64 150]]).run Tryz.prog W
      = .ok (.agg #[.pointer (some ⟨1, 157, none⟩), .pointer (some p), .int .u64 409]) W := by
  rw [rlm]
  simp only [Sem.run_bind, partsPR, Result.andThen]
  simp [ReflectliteValue.elem, loadVar, isAgg, underlying, Tryz.underlying188, ha, Result.andThen, elemOfPR, mkR]
theorem partsRa (a : Addr) (w : World) : (ReflectliteValue.parts (.agg #[.pointer (some ⟨1, 157, none⟩), .pointer (some a), .int .u64 409])).run Tryz.prog w = .ok (some (157, a, 409)) w := by kernel_rfl
theorem partsR (a : Addr) (w : World) : (ReflectliteValue.parts (.agg #[.pointer (some ⟨1, 157, none⟩), .pointer (some a), .int .u64 153])).run Tryz.prog w = .ok (some (157, a, 153)) w := by kernel_rfl
theorem directR (w : World) : (Rtype.directlyAssignable 157 157).run Tryz.prog w = .ok true w := by kernel_rfl
theorem valueOfPC (t : Addr) (w : World) : (ReflectliteValue.unpack (.iface 189 (.pointer (some t)))).run Tryz.prog w
    = .ok (.agg #[.pointer (some ⟨1, 189, none⟩), .pointer (some ⟨w.heap.size, 0, none⟩), .int .u64 150]) (w.alloc (.cells #[.pointer (some t)] 189)) := by kernel_rfl
theorem typePC (a : Addr) (w : World) : (ReflectliteValue.methodAny (ReflectliteValue.valueError "reflectlite.Value.Type" 0) (fun t _ _ _ => ReflectliteType.toType t) #[.agg #[.pointer (some ⟨1, 189, none⟩), .pointer (some a), .int .u64 150]]).run Tryz.prog w
    = .ok (.iface 278 (.agg #[.pointer (some ⟨1, 189, none⟩)])) w := by kernel_rfl
theorem kindPC (w : World) : ((ReflectliteType.abiMethod fun t => (fun a : Nat => Value.int IntKind.u8 (a : Int)) <$> Rtype.kind t) #[.pointer (some ⟨1, 189, none⟩)]).run Tryz.prog w = .ok (.int .u8 22) w := by kernel_rfl
theorem kindC (w : World) : ((ReflectliteType.abiMethod fun t => (fun a : Nat => Value.int IntKind.u8 (a : Int)) <$> Rtype.kind t) #[.pointer (some ⟨1, 90, none⟩)]).run Tryz.prog w = .ok (.int .u8 6) w := by kernel_rfl
theorem partsPC (a : Addr) (w : World) : (ReflectliteValue.parts (.agg #[.pointer (some ⟨1, 189, none⟩), .pointer (some a), .int .u64 150])).run Tryz.prog w = .ok (some (189, a, 150)) w := by kernel_rfl
theorem isNilPC (a p : Addr) (W : World) (ha : W.cell? a = some (.pointer (some p))) :
    (ReflectliteValue.method (ReflectliteValue.valueError "reflectlite.Value.IsNil" 0) ReflectliteValue.isNil #[.agg #[.pointer (some ⟨1, 189, none⟩), .pointer (some a), .int .u64 150]]).run Tryz.prog W = .ok (.bool false) W := by
  rw [rlm]
  simp only [Sem.run_bind, partsPC, Result.andThen]
  simp [ReflectliteValue.isNil, loadVar, isAgg, underlying, Tryz.underlying189, ha, Result.andThen]
theorem elemPC (w : World) : (ReflectliteType.method ReflectliteType.elem #[.agg #[.pointer (some ⟨1, 189, none⟩)]]).run Tryz.prog w = .ok (.iface 278 (.agg #[.pointer (some ⟨1, 90, none⟩)])) w := by kernel_rfl
theorem implementsC (w : World) : (ReflectliteType.relation "Implements" ReflectliteType.implements_ #[.agg #[.pointer (some ⟨1, 90, none⟩)], .iface 278 (.agg #[.pointer (some ⟨1, 155, none⟩)])]).run Tryz.prog w = .ok (.bool true) w := by kernel_rfl
theorem typeOfC (v : Value) (w : World) : (ReflectliteType.typeOf #[.iface 90 v]).run Tryz.prog w = .ok (.iface 278 (.agg #[.pointer (some ⟨1, 90, none⟩)])) w := by kernel_rfl
theorem assignableC (w : World) : (ReflectliteType.relation "AssignableTo" ReflectliteType.assignableTo #[.agg #[.pointer (some ⟨1, 90, none⟩)], .iface 278 (.agg #[.pointer (some ⟨1, 90, none⟩)])]).run Tryz.prog w = .ok (.bool true) w := by kernel_rfl
theorem elemOfPC (w : World) : (Rtype.elem? 189).run Tryz.prog w = .ok (some 90) w := by kernel_rfl
theorem mkC (p : Addr) (w : World) : (ReflectliteValue.mk 90 p ReflectliteValue.flagAddr).run Tryz.prog w = .ok (.agg #[.pointer (some ⟨1, 90, none⟩), .pointer (some p), .int .u64 390]) w := by kernel_rfl
theorem elemVPC (a p : Addr) (W : World) (ha : W.cell? a = some (.pointer (some p))) :
    (ReflectliteValue.method (ReflectliteValue.valueError "reflectlite.Value.Elem" 0) ReflectliteValue.elem #[.agg #[.pointer (some ⟨1, 189, none⟩), .pointer (some a), .int .u64 150]]).run Tryz.prog W
      = .ok (.agg #[.pointer (some ⟨1, 90, none⟩), .pointer (some p), .int .u64 390]) W := by
  rw [rlm]
  simp only [Sem.run_bind, partsPC, Result.andThen]
  simp [ReflectliteValue.elem, loadVar, isAgg, underlying, Tryz.underlying189, ha, Result.andThen, elemOfPC, mkC]
theorem partsCa (a : Addr) (w : World) : (ReflectliteValue.parts (.agg #[.pointer (some ⟨1, 90, none⟩), .pointer (some a), .int .u64 390])).run Tryz.prog w = .ok (some (90, a, 390)) w := by kernel_rfl
theorem partsC (a : Addr) (w : World) : (ReflectliteValue.parts (.agg #[.pointer (some ⟨1, 90, none⟩), .pointer (some a), .int .u64 134])).run Tryz.prog w = .ok (some (90, a, 134)) w := by kernel_rfl
theorem directC (w : World) : (Rtype.directlyAssignable 90 90).run Tryz.prog w = .ok true w := by kernel_rfl
theorem assignableRC (w : World) : (ReflectliteType.relation "AssignableTo" ReflectliteType.assignableTo #[.agg #[.pointer (some ⟨1, 157, none⟩)], .iface 278 (.agg #[.pointer (some ⟨1, 90, none⟩)])]).run Tryz.prog w = .ok (.bool false) w := by kernel_rfl
theorem sizeR (w : World) : (sizeOf 157).run Tryz.prog w = .ok 7 w := by kernel_rfl
theorem sizeC (w : World) : (sizeOf 90).run Tryz.prog w = .ok 1 w := by kernel_rfl
theorem isAggR (w : World) : (isAgg 157).run Tryz.prog w = .ok true w := by kernel_rfl
theorem isAggC (w : World) : (isAgg 90).run Tryz.prog w = .ok false w := by kernel_rfl
theorem valueOfR (y0 y1 y2 y3 y4 y5 y6 : Value) (w : World) : (ReflectliteValue.unpack (.iface 157 (.agg #[y0, y1, y2, y3, y4, y5, y6]))).run Tryz.prog w
    = .ok (.agg #[.pointer (some ⟨1, 157, none⟩), .pointer (some ⟨w.heap.size, 0, none⟩), .int .u64 153]) (w.alloc (.cells #[y0, y1, y2, y3, y4, y5, y6] 157)) := by kernel_rfl
theorem valueOfC (n : Int) (w : World) : (ReflectliteValue.unpack (.iface 90 (.int .i64 n))).run Tryz.prog w
    = .ok (.agg #[.pointer (some ⟨1, 90, none⟩), .pointer (some ⟨w.heap.size, 0, none⟩), .int .u64 134]) (w.alloc (.cells #[.int .i64 n] 90)) := by kernel_rfl
theorem setR (t b : Nat) (ys old : List Value) (W : World) (h7 : ys.length = 7) (h1 : ∀ u ∈ ys, u.oneCell' = true) (hb : Bx W b ys) (ho : old.length = 7) (ht : Bx W t old) :
    (ReflectliteValue.set #[.agg #[.pointer (some ⟨1, 157, none⟩), .pointer (some ⟨t, 0, none⟩), .int .u64 409], .agg #[.pointer (some ⟨1, 157, none⟩), .pointer (some ⟨b, 0, none⟩), .int .u64 153]]).run Tryz.prog W
      = .ok (.tuple #[]) (putB W t 0 ys) := by
  have hl : (loadVar 157 ⟨b, 0, none⟩).run Tryz.prog W = .ok (.agg ys.toArray) W := by
    have := run_loadCells Tryz.prog b W ys hb.1
    rw [h7] at this
    rw [loadVar, Sem.run_bind, isAggR]
    simp only [Result.andThen, if_true]
    rw [Sem.run_bind, sizeR]
    simp only [Result.andThen]
    rw [Sem.run_bind, this]
    rfl
  have hs : (storeVar 157 ⟨t, 0, none⟩ (.agg ys.toArray)).run Tryz.prog W = .ok () (putB W t 0 ys) := by
    have := run_storeCells Tryz.prog t ys W 0 h1 (fun j _ hj => ⟨⟨_, ht.1 j _ (List.getElem?_eq_getElem (by omega))⟩, ht.2.1 j⟩)
    rw [storeVar, Sem.run_bind, sizeR]
    simp only [Result.andThen, Value.cells]
    simpa [h7] using this
  rw [rls]
  simp only [Sem.run_bind, partsRa, partsR, Result.andThen]
  simp [ReflectliteValue.flagAddr, hl, Result.andThen, directR, hs]
theorem setC (t b : Nat) (n : Int) (old : Value) (W : World) (hb : W.cell? ⟨b, 0, none⟩ = some (.int .i64 n)) (ht : W.cell? ⟨t, 0, none⟩ = some old) (hf : W.frozen? ⟨t, 0, none⟩ = false) :
    (ReflectliteValue.set #[.agg #[.pointer (some ⟨1, 90, none⟩), .pointer (some ⟨t, 0, none⟩), .int .u64 390], .agg #[.pointer (some ⟨1, 90, none⟩), .pointer (some ⟨b, 0, none⟩), .int .u64 134]]).run Tryz.prog W
      = .ok (.tuple #[]) (W.setCell ⟨t, 0, none⟩ (.int .i64 n)) := by
  have hl : (loadVar 90 ⟨b, 0, none⟩).run Tryz.prog W = .ok (.int .i64 n) W := by
    rw [loadVar, Sem.run_bind, isAggC]
    simp [Result.andThen, hb]
  have hs : (storeVar 90 ⟨t, 0, none⟩ (.int .i64 n)).run Tryz.prog W = .ok () (W.setCell ⟨t, 0, none⟩ (.int .i64 n)) := by
    have := run_storeCells Tryz.prog t [.int .i64 n] W 0 (fun u hu => by simp at hu; subst hu; rfl) (fun j _ hj => by
      obtain rfl : j = 0 := by simp at hj; omega
      exact ⟨⟨_, ht⟩, hf⟩)
    rw [storeVar, Sem.run_bind, sizeC]
    simp only [Result.andThen, Value.cells]
    simpa [putB] using this
  rw [rls]
  simp only [Sem.run_bind, partsCa, partsC, Result.andThen]
  simp [ReflectliteValue.flagAddr, hl, Result.andThen, directC, hs]
end ea
namespace ea
set_option maxHeartbeats 4000000 in
theorem as_R (t : Nat) (y0 y1 y2 y3 y4 y5 y6 : Value) (old : List Value) (w : World) (hg : w.cell? ⟨0, 0, none⟩ = some (.iface 278 (.agg #[.pointer (some ⟨1, 155, none⟩)]))) (h1 : ∀ u ∈ [y0, y1, y2, y3, y4, y5, y6], u.oneCell' = true) (ho : old.length = 7) (ht : Bx w t old) :
    Calls Tryz.prog 146 #[.iface 157 (.agg #[y0, y1, y2, y3, y4, y5, y6]), .iface 188 (.pointer (some ⟨t, 0, none⟩))] w fun ev w' => ev = .returned (.bool true) ∧ w' = putB ((((w.alloc (.cells #[.pointer (some ⟨t, 0, none⟩)] 188)).alloc (.cells #[.pointer (some ⟨1, 188, none⟩), .pointer (some ⟨w.heap.size, 0, none⟩), .int .u64 150] 238)).alloc (.cells #[.pointer (some ⟨1, 188, none⟩), .pointer (some ⟨w.heap.size, 0, none⟩), .int .u64 150] 238)).alloc (.cells #[y0, y1, y2, y3, y4, y5, y6] 157)) t 0 [y0, y1, y2, y3, y4, y5, y6] := by
  have h6 := @run_callFunc_extern Tryz.prog 185 _ (fun args => ReflectliteValue.unpack (args.getD 0 (.tuple #[]))) Tryz.func185 (by kernel_rfl) (by kernel_rfl) (by kernel_rfl) (by kernel_rfl)
  have h7 := @run_callFunc_extern Tryz.prog 186 _ (ReflectliteValue.methodAny (ReflectliteValue.valueError "reflectlite.Value.Type" 0) (fun t _ _ _ => ReflectliteType.toType t)) Tryz.func186 (by kernel_rfl) (by kernel_rfl) (by kernel_rfl) (by kernel_rfl)
  have h8 := @run_callFunc_extern Tryz.prog 187 _ (ReflectliteValue.method (ReflectliteValue.valueError "reflectlite.Value.IsNil" 0) ReflectliteValue.isNil) Tryz.func187 (by kernel_rfl) (by kernel_rfl) (by kernel_rfl) (by kernel_rfl)
  have h27 := @run_callFunc_extern Tryz.prog 318 _ (ReflectliteType.abiMethod fun t => do pure (.int .u8 (← Rtype.kind t))) Tryz.func318 (by kernel_rfl) (by kernel_rfl) (by kernel_rfl) (by kernel_rfl)
  have h37 := @run_callFunc_extern Tryz.prog 336 _ (ReflectliteType.method ReflectliteType.elem) Tryz.func336 (by kernel_rfl) (by kernel_rfl) (by kernel_rfl) (by kernel_rfl)
  have h38 := @run_callFunc_extern Tryz.prog 337 _ (ReflectliteType.relation "Implements" ReflectliteType.implements_) Tryz.func337 (by kernel_rfl) (by kernel_rfl) (by kernel_rfl) (by kernel_rfl)
  have h10 := @run_callFunc_extern Tryz.prog 226 _ ReflectliteType.typeOf Tryz.func226 (by kernel_rfl) (by kernel_rfl) (by kernel_rfl) (by kernel_rfl)
  have h35 := @run_callFunc_extern Tryz.prog 334 _ (ReflectliteType.relation "AssignableTo" ReflectliteType.assignableTo) Tryz.func334 (by kernel_rfl) (by kernel_rfl) (by kernel_rfl) (by kernel_rfl)
  have h11 := @run_callFunc_extern Tryz.prog 227 _ (ReflectliteValue.method (ReflectliteValue.valueError "reflectlite.Value.Elem" 0) ReflectliteValue.elem) Tryz.func227 (by kernel_rfl) (by kernel_rfl) (by kernel_rfl) (by kernel_rfl)
  have h12 := @run_callFunc_extern Tryz.prog 228 _ ReflectliteValue.set Tryz.func228 (by kernel_rfl) (by kernel_rfl) (by kernel_rfl) (by kernel_rfl)
  have tO := typeOfR
  have mA := methodAssignableTo
  have a25 := assignableR
  have v25 := valueOfR y0 y1 y2 y3 y4 y5 y6
  have f6 := valueOfPR
  have f7 := typePR
  have mK := methodKind
  have mE := methodElem
  have mI := methodImplements
  have k27 := kindPR
  have k25 := kindR
  have e27 := elemPR
  have i25 := implementsR
  obtain ⟨V1, hV1⟩ : ∃ V, V = w.alloc (.cells #[.pointer (some ⟨t, 0, none⟩)] 188) := ⟨_, rfl⟩
  have b1 : Below w.heap.size w V1 := by rw [hV1]; exact (Below.refl _ _).alloc (Nat.le_refl _) _
  have s1 : V1.heap.size = w.heap.size + 1 := by rw [hV1]; simp
  have c1 : V1.cell? ⟨w.heap.size, 0, none⟩ = some (.pointer (some ⟨t, 0, none⟩)) := by rw [hV1]; simp
  obtain ⟨V2, hV2⟩ : ∃ V, V = V1.alloc (.cells #[.pointer (some ⟨1, 188, none⟩), .pointer (some ⟨w.heap.size, 0, none⟩), .int .u64 150] 238) := ⟨_, rfl⟩
  have b2 : Below V1.heap.size V1 V2 := by rw [hV2]; exact (Below.refl _ _).alloc (Nat.le_refl _) _
  have s2 : V2.heap.size = V1.heap.size + 1 := by rw [hV2]; simp
  obtain ⟨V3, hV3⟩ : ∃ V, V = V2.alloc (.cells #[.pointer (some ⟨1, 188, none⟩), .pointer (some ⟨w.heap.size, 0, none⟩), .int .u64 150] 238) := ⟨_, rfl⟩
  have b3 : Below V2.heap.size V2 V3 := by rw [hV3]; exact (Below.refl _ _).alloc (Nat.le_refl _) _
  have s3 : V3.heap.size = V2.heap.size + 1 := by rw [hV3]; simp
  obtain ⟨V4, hV4⟩ : ∃ V, V = V3.alloc (.cells #[y0, y1, y2, y3, y4, y5, y6] 157) := ⟨_, rfl⟩
  have b4 : Below V3.heap.size V3 V4 := by rw [hV4]; exact (Below.refl _ _).alloc (Nat.le_refl _) _
  have x4 : Bx V4 V3.heap.size [y0, y1, y2, y3, y4, y5, y6] := by rw [hV4]; exact Bx.made V3 [y0, y1, y2, y3, y4, y5, y6] _
  have hlt : 0 < w.heap.size := by
    rcases Nat.eq_zero_or_pos w.heap.size with h0 | h
    · simp [World.cell?, h0] at hg
    · exact h
  have hg2 : V2.cell? ⟨0, 0, none⟩ = some (.iface 278 (.agg #[.pointer (some ⟨1, 155, none⟩)])) := (b2.cell (p := ⟨0, 0, none⟩) (by show 0 < V1.heap.size; omega)).trans ((b1.cell (p := ⟨0, 0, none⟩) hlt).trans hg)
  have n8 := isNilPR ⟨w.heap.size, 0, none⟩ ⟨t, 0, none⟩ V2 ((b2.cell (p := ⟨w.heap.size, 0, none⟩) (by show w.heap.size < V1.heap.size; omega)).trans c1)
  have el := elemVPR ⟨w.heap.size, 0, none⟩ ⟨t, 0, none⟩ V3 ((b3.cell (p := ⟨w.heap.size, 0, none⟩) (by show w.heap.size < V2.heap.size; omega)).trans ((b2.cell (p := ⟨w.heap.size, 0, none⟩) (by show w.heap.size < V1.heap.size; omega)).trans c1))
  have st := setR t V3.heap.size [y0, y1, y2, y3, y4, y5, y6] old V4 rfl h1 x4 ho ((((ht.later b1).later b2).later b3).later b4)
  rw [show V3.heap.size = w.heap.size + 1 + 1 + 1 by omega] at st
  rw [hV4, hV3, hV2, hV1] at st
  rw [hV3, hV2, hV1] at el
  rw [hV2, hV1] at n8 hg2
  clear b1 s1 c1 b2 s2 b3 s3 b4 x4 hV1 hV2 hV3 hV4 V1 V2 V3 V4 ht h1 ho
  go_enter Tryz.func146, Tryz.ntmps146
  go_wp2
  refine wp_loop_rounds 1 ?_
  rw [rounds_succ]
  go_wp2
  go_ret
  exact ⟨rfl, rfl⟩
end ea
namespace ea
theorem asU : Tryz.prog.underlying 283 = some (.interface #[("As", 285)]) := by kernel_rfl
theorem unwrapU : Tryz.prog.underlying 286 = some (.interface #[("Unwrap", 287)]) := by kernel_rfl
theorem errorU : Tryz.prog.underlying 155 = some (.interface #[("Error", 340)]) := by kernel_rfl
theorem methodUnwrap (v : Value) (w : World) : (Go.method 470 157 v "Unwrap").run Tryz.prog w = .ok (324, v) w := by kernel_rfl
set_option maxHeartbeats 4000000 in
theorem as_C (t : Nat) (n : Int) (y1 y2 y3 y4 y5 y6 old : Value) (w : World) (hg : w.cell? ⟨0, 0, none⟩ = some (.iface 278 (.agg #[.pointer (some ⟨1, 155, none⟩)]))) (ht : w.cell? ⟨t, 0, none⟩ = some old) (hf : w.frozen? ⟨t, 0, none⟩ = false) (htl : t < w.heap.size) :
    Calls Tryz.prog 146 #[.iface 157 (.agg #[.iface 90 (.int .i64 n), y1, y2, y3, y4, y5, y6]), .iface 189 (.pointer (some ⟨t, 0, none⟩))] w fun ev w' => ev = .returned (.bool true) ∧ w' = (((((w.alloc (.cells #[.pointer (some ⟨t, 0, none⟩)] 189)).alloc (.cells #[.pointer (some ⟨1, 189, none⟩), .pointer (some ⟨w.heap.size, 0, none⟩), .int .u64 150] 238)).alloc (.cells #[.pointer (some ⟨1, 189, none⟩), .pointer (some ⟨w.heap.size, 0, none⟩), .int .u64 150] 238)).alloc (.cells #[.iface 90 (.int .i64 n), y1, y2, y3, y4, y5, y6] 157)).alloc (.cells #[.int .i64 n] 90)).setCell ⟨t, 0, none⟩ (.int .i64 n) := by
  have h6 := @run_callFunc_extern Tryz.prog 185 _ (fun args => ReflectliteValue.unpack (args.getD 0 (.tuple #[]))) Tryz.func185 (by kernel_rfl) (by kernel_rfl) (by kernel_rfl) (by kernel_rfl)
  have h7 := @run_callFunc_extern Tryz.prog 186 _ (ReflectliteValue.methodAny (ReflectliteValue.valueError "reflectlite.Value.Type" 0) (fun t _ _ _ => ReflectliteType.toType t)) Tryz.func186 (by kernel_rfl) (by kernel_rfl) (by kernel_rfl) (by kernel_rfl)
  have h8 := @run_callFunc_extern Tryz.prog 187 _ (ReflectliteValue.method (ReflectliteValue.valueError "reflectlite.Value.IsNil" 0) ReflectliteValue.isNil) Tryz.func187 (by kernel_rfl) (by kernel_rfl) (by kernel_rfl) (by kernel_rfl)
  have h27 := @run_callFunc_extern Tryz.prog 318 _ (ReflectliteType.abiMethod fun t => do pure (.int .u8 (← Rtype.kind t))) Tryz.func318 (by kernel_rfl) (by kernel_rfl) (by kernel_rfl) (by kernel_rfl)
  have h37 := @run_callFunc_extern Tryz.prog 336 _ (ReflectliteType.method ReflectliteType.elem) Tryz.func336 (by kernel_rfl) (by kernel_rfl) (by kernel_rfl) (by kernel_rfl)
  have h38 := @run_callFunc_extern Tryz.prog 337 _ (ReflectliteType.relation "Implements" ReflectliteType.implements_) Tryz.func337 (by kernel_rfl) (by kernel_rfl) (by kernel_rfl) (by kernel_rfl)
  have h10 := @run_callFunc_extern Tryz.prog 226 _ ReflectliteType.typeOf Tryz.func226 (by kernel_rfl) (by kernel_rfl) (by kernel_rfl) (by kernel_rfl)
  have h35 := @run_callFunc_extern Tryz.prog 334 _ (ReflectliteType.relation "AssignableTo" ReflectliteType.assignableTo) Tryz.func334 (by kernel_rfl) (by kernel_rfl) (by kernel_rfl) (by kernel_rfl)
  have h11 := @run_callFunc_extern Tryz.prog 227 _ (ReflectliteValue.method (ReflectliteValue.valueError "reflectlite.Value.Elem" 0) ReflectliteValue.elem) Tryz.func227 (by kernel_rfl) (by kernel_rfl) (by kernel_rfl) (by kernel_rfl)
  have h12 := @run_callFunc_extern Tryz.prog 228 _ ReflectliteValue.set Tryz.func228 (by kernel_rfl) (by kernel_rfl) (by kernel_rfl) (by kernel_rfl)
  have tO := typeOfR
  have tC := typeOfC
  have mA := methodAssignableTo
  have aRC := assignableRC
  have aC := assignableC
  have vC := valueOfC n
  have f6 := valueOfPC
  have f7 := typePC
  have mK := methodKind
  have mE := methodElem
  have mI := methodImplements
  have mU := methodUnwrap
  have k27 := kindPC
  have k25 := kindC
  have e27 := elemPC
  have i25 := implementsC
  have tA : ∀ (v : Value) (w : World), (Instr.typeAssert (.iface 157 v) 155 283 true).run Tryz.prog w = .ok (.tuple #[.nilIface, .bool false]) w := fun v w => run_typeAssert_lacksB asU (by kernel_rfl) (by kernel_rfl) _ _ w
  have tU : ∀ (v : Value) (w : World), (Instr.typeAssert (.iface 157 v) 155 286 true).run Tryz.prog w = .ok (.tuple #[.iface 157 v, .bool true]) w := fun v w => run_typeAssert_hasB unwrapU (by kernel_rfl) _ _ w
  obtain ⟨V1, hV1⟩ : ∃ V, V = w.alloc (.cells #[.pointer (some ⟨t, 0, none⟩)] 189) := ⟨_, rfl⟩
  have b1 : Below w.heap.size w V1 := by rw [hV1]; exact (Below.refl _ _).alloc (Nat.le_refl _) _
  have s1 : V1.heap.size = w.heap.size + 1 := by rw [hV1]; simp
  have c1 : V1.cell? ⟨w.heap.size, 0, none⟩ = some (.pointer (some ⟨t, 0, none⟩)) := by rw [hV1]; simp
  obtain ⟨V2, hV2⟩ : ∃ V, V = V1.alloc (.cells #[.pointer (some ⟨1, 189, none⟩), .pointer (some ⟨w.heap.size, 0, none⟩), .int .u64 150] 238) := ⟨_, rfl⟩
  have b2 : Below V1.heap.size V1 V2 := by rw [hV2]; exact (Below.refl _ _).alloc (Nat.le_refl _) _
  have s2 : V2.heap.size = V1.heap.size + 1 := by rw [hV2]; simp
  obtain ⟨V3, hV3⟩ : ∃ V, V = V2.alloc (.cells #[.pointer (some ⟨1, 189, none⟩), .pointer (some ⟨w.heap.size, 0, none⟩), .int .u64 150] 238) := ⟨_, rfl⟩
  have b3 : Below V2.heap.size V2 V3 := by rw [hV3]; exact (Below.refl _ _).alloc (Nat.le_refl _) _
  have s3 : V3.heap.size = V2.heap.size + 1 := by rw [hV3]; simp
  obtain ⟨V4, hV4⟩ : ∃ V, V = V3.alloc (.cells #[.iface 90 (.int .i64 n), y1, y2, y3, y4, y5, y6] 157) := ⟨_, rfl⟩
  have b4 : Below V3.heap.size V3 V4 := by rw [hV4]; exact (Below.refl _ _).alloc (Nat.le_refl _) _
  have s4 : V4.heap.size = V3.heap.size + 1 := by rw [hV4]; simp
  obtain ⟨V5, hV5⟩ : ∃ V, V = V4.alloc (.cells #[.int .i64 n] 90) := ⟨_, rfl⟩
  have b5 : Below V4.heap.size V4 V5 := by rw [hV5]; exact (Below.refl _ _).alloc (Nat.le_refl _) _
  have c5 : V5.cell? ⟨V4.heap.size, 0, none⟩ = some (.int .i64 n) := by rw [hV5]; simp
  have hlt : 0 < w.heap.size := by omega
  have hg2 : V2.cell? ⟨0, 0, none⟩ = some (.iface 278 (.agg #[.pointer (some ⟨1, 155, none⟩)])) := (b2.cell (p := ⟨0, 0, none⟩) (by show 0 < V1.heap.size; omega)).trans ((b1.cell (p := ⟨0, 0, none⟩) hlt).trans hg)
  have q2 := (b2.cell (p := ⟨w.heap.size, 0, none⟩) (by show w.heap.size < V1.heap.size; omega)).trans c1
  have q3 := (b3.cell (p := ⟨w.heap.size, 0, none⟩) (by show w.heap.size < V2.heap.size; omega)).trans q2
  have q4 := (b4.cell (p := ⟨w.heap.size, 0, none⟩) (by show w.heap.size < V3.heap.size; omega)).trans q3
  have n8 := isNilPC ⟨w.heap.size, 0, none⟩ ⟨t, 0, none⟩ V2 q2
  have el := elemVPC ⟨w.heap.size, 0, none⟩ ⟨t, 0, none⟩ V4 q4
  have b15 : Below w.heap.size w V5 := bstep (bstep (bstep (bstep b1 b2) b3) b4) b5
  have st := setC t V4.heap.size n old V5 c5 ((b15.cell (p := ⟨t, 0, none⟩) htl).trans ht) ((World.frozen?_of_block (a := ⟨t, 0, none⟩) (b15.block t htl)).trans hf)
  rw [show V4.heap.size = w.heap.size + 1 + 1 + 1 + 1 by omega] at st
  rw [hV5, hV4, hV3, hV2, hV1] at st
  rw [hV4, hV3, hV2, hV1] at el
  rw [hV2, hV1] at n8 hg2
  clear b1 s1 c1 b2 s2 b3 s3 b4 s4 b5 c5 b15 q2 q3 q4 hV1 hV2 hV3 hV4 hV5 V1 V2 V3 V4 V5 ht hf
  go_enter Tryz.func146, Tryz.ntmps146
  go_wp2
  refine wp_loop_rounds 2 ?_
  rw [rounds_succ]
  go_wp2
  rw [rounds_succ]
  go_wp2
  go_ret
  exact ⟨rfl, rfl⟩
end ea
end Go.Proofs.YtnhjgomfkfehgaaGreatDoor