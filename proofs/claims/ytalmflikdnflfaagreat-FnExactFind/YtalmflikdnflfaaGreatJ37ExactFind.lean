/- Grow; OwnC: joined. -/
import Derived.Test.YtalmflikdnflfaaGreatRows
import Derived.Test.YtalmflikdnflfaaGreatJ13ExactFind
import Derived.Below
import Derived.Maps.AppendAt
import Derived.Laws.OwnMore
import Derived.Deep.AppendLies
import Derived.Test.YtalmflikdnflfaaGreatJ28ExactFind
import Derived.WalkKit
import Derived.WalkSpells
import Derived.WalkLawsBesides
/- A row of structs of a call's own that append makes: some numbers, and behind them a row of each struct's own. -/
namespace Go.Proofs.YtalmflikdnflfaaGreat
open Go.RowKit
def cellsG {α : Type} (hd : α → List Int) (ln : α → Nat) (r : α) (q cap : Nat) : List Value := (hd r).map (Value.int .i64) ++ [.slice (some ⟨q, 0, none⟩) (ln r) cap]
def flatG {α : Type} (hd : α → List Int) (ln : α → Nat) (rs : List α) (g caps : Nat → Nat) : List Value := rs.zipIdx.flatMap fun p => cellsG hd ln p.1 (g p.2) (caps p.2)
theorem flat_at {β : Type} {f : β → List Value} {sz : Nat} : ∀ {l : List β} (_ : ∀ x ∈ l, (f x).length = sz) {i t : Nat} {x : β}, l[i]? = some x → t < sz → (l.flatMap f)[i * sz + t]? = (f x)[t]?
  | [], _, i, t, x, h, _ => by simp at h
  | y :: l, hf, 0, t, x, h, ht => by
    simp at h
    subst h
    rw [List.flatMap_cons, List.getElem?_append_left (by rw [hf y (by simp)]; omega)]
    simp
  | y :: l, hf, i + 1, t, x, h, ht => by
    have hl := hf y (by simp)
    rw [List.flatMap_cons, List.getElem?_append_right (by rw [hl, Nat.add_mul]; omega), hl, show (i + 1) * sz + t - sz = i * sz + t by rw [Nat.add_mul]; omega]
    exact flat_at (fun x hx => hf x (by simp [hx])) (by simpa using h) ht
theorem flatG_at {α : Type} {hd : α → List Int} {ln : α → Nat} {sz : Nat} (hh : ∀ r, (hd r).length + 1 = sz) {rs : List α} {g caps : Nat → Nat} {i t : Nat} {r : α} (h : rs[i]? = some r) (ht : t < sz) : (flatG hd ln rs g caps)[i * sz + t]? = (cellsG hd ln r (g i) (caps i))[t]? := by
  have h' : rs.zipIdx[i]? = some (r, i) := by simp [h]
  exact flat_at (f := fun p : α × Nat => cellsG hd ln p.1 (g p.2) (caps p.2)) (fun x _ => by simp [cellsG, hh]) h' ht
theorem flat_cong {β : Type} {f f' : β → List Value} : ∀ {l : List β}, (∀ x ∈ l, f x = f' x) → l.flatMap f = l.flatMap f'
  | [], _ => rfl
  | y :: l, h => by rw [List.flatMap_cons, List.flatMap_cons, h y (by simp), flat_cong (fun x hx => h x (by simp [hx]))]
theorem flatG_snoc {α : Type} {hd : α → List Int} {ln : α → Nat} (rs : List α) (r : α) (g caps : Nat → Nat) (q cap : Nat) : flatG hd ln (rs ++ [r]) (fun i => if i = rs.length then q else g i) (fun i => if i = rs.length then cap else caps i) = flatG hd ln rs g caps ++ cellsG hd ln r q cap := by
  unfold flatG
  rw [List.zipIdx_append, List.flatMap_append]
  congr 1
  · have : ∀ p ∈ rs.zipIdx, p.2 < rs.length := fun p hp => by
      have := List.snd_lt_of_mem_zipIdx hp
      omega
    refine flat_cong fun p hp => ?_
    have := this p hp
    simp only [if_neg (show p.2 ≠ rs.length by omega)]
  · simp
structure GrowG {α : Type} (T : TypeId) (sz : Nat) (hd : α → List Int) (ln : α → Nat) (At : World → Nat → α → Prop) (w : World) (base : Nat) (v : Value) (rs : List α) (g : Nat → Nat) : Prop where
  row : ∃ caps : Nat → Nat, w.ownsRow base T sz v rs.length (flatG hd ln rs g caps) ∧ ∀ i r, rs[i]? = some r → ln r ≤ caps i
  low : ∀ i, i < rs.length → base ≤ g i
  lt : ∀ i, i < rs.length → g i < w.heap.size
  ne : ∀ i, i < rs.length → v.ownBlock ≠ some (g i)
  sub : ∀ i r, rs[i]? = some r → At w (g i) r
  inj : ∀ i j, i < rs.length → j < rs.length → g i = g j → i = j
theorem GrowG.nil {α : Type} {T : TypeId} {sz : Nat} {hd : α → List Int} {ln : α → Nat} {At : World → Nat → α → Prop} (w : World) (base : Nat) (g : Nat → Nat) : GrowG T sz hd ln At w base (.slice none 0 0) [] g :=
  ⟨⟨fun _ => 0, ⟨by simp [flatG], .inl ⟨rfl, rfl⟩⟩, fun i r e => by simp at e⟩, fun i h => by simp at h, fun i h => by simp at h, fun i h => by simp at h, fun i r e => by simp at e, fun i j h => by simp at h⟩
theorem GrowG.lies {α : Type} {T : TypeId} {sz : Nat} {hd : α → List Int} {ln : α → Nat} {At : World → Nat → α → Prop} {w : World} {base : Nat} {v : Value} {rs : List α} {g : Nat → Nat} (h : GrowG T sz hd ln At w base v rs g) {q : Nat} (e : v.ownBlock = some q) : base ≤ q ∧ q < w.heap.size := by
  obtain ⟨caps, ho, _⟩ := h.row
  exact World.ownsRow.lt ho q e
theorem GrowG.keep {α : Type} {T : TypeId} {sz : Nat} {hd : α → List Int} {ln : α → Nat} {At : World → Nat → α → Prop} (hAt : ∀ (w w' : World) (b : Nat) (r : α), w'.heap[b]? = w.heap[b]? → At w b r → At w' b r) {w w' : World} {base : Nat} {v : Value} {rs : List α} {g : Nat → Nat} (h : GrowG T sz hd ln At w base v rs g) (hsz : w.heap.size ≤ w'.heap.size) (hs : ∀ q, q < w.heap.size → (v.ownBlock = some q ∨ ∃ i, i < rs.length ∧ g i = q) → w'.heap[q]? = w.heap[q]?) : GrowG T sz hd ln At w' base v rs g := by
  obtain ⟨caps, ho, hc⟩ := h.row
  refine ⟨⟨caps, ⟨ho.1, ho.2.imp id ?_⟩, hc⟩, h.low, fun i hi => Nat.lt_of_lt_of_le (h.lt i hi) hsz, h.ne, fun i r e => ?_, h.inj⟩
  · rintro ⟨q, cap, cur, rfl, l, hg, r⟩
    exact ⟨q, cap, cur, rfl, l, (hs q (World.ownsRow.lt ho q rfl).2 (.inl rfl)).trans hg, r⟩
  · have hi := (List.getElem?_eq_some_iff.1 e).1
    exact hAt _ _ _ _ (hs _ (h.lt i hi) (.inr ⟨i, hi, rfl⟩)) (h.sub i r e)
theorem GrowG.later {α : Type} {T : TypeId} {sz : Nat} {hd : α → List Int} {ln : α → Nat} {At : World → Nat → α → Prop} (hAt : ∀ (w w' : World) (b : Nat) (r : α), w'.heap[b]? = w.heap[b]? → At w b r → At w' b r) {w w' : World} {base : Nat} {v : Value} {rs : List α} {g : Nat → Nat} (h : GrowG T sz hd ln At w base v rs g) (hb : Below w.heap.size w w') : GrowG T sz hd ln At w' base v rs g := h.keep hAt hb.size (fun q hq _ => hb.block q hq)
/-- Where there are some: at the head of a block. -/
theorem GrowG.own {α : Type} {T : TypeId} {sz : Nat} {hd : α → List Int} {ln : α → Nat} {At : World → Nat → α → Prop} (hh : ∀ r, (hd r).length + 1 = sz) {w : World} {base : Nat} {v : Value} {rs : List α} {g : Nat → Nat} (h : GrowG T sz hd ln At w base v rs g) (hne : rs ≠ []) :
    ∃ b cap, v = .slice (some ⟨b, 0, none⟩) rs.length cap ∧ base ≤ b ∧ b < w.heap.size ∧ rs.length ≤ cap ∧ Room w b (rs.length * sz) ∧ OwnG sz hd ln At w base b rs.length rs g := by
  obtain ⟨caps, ho, hc⟩ := h.row
  have hpos : 0 < rs.length := List.length_pos_iff.2 hne
  have hcap : ∃ b cap, v = .slice (some ⟨b, 0, none⟩) rs.length cap ∧ rs.length ≤ cap := by
    rcases ho.2 with ⟨_, h0⟩ | ⟨b, cap, cur, rfl, _, _, hl, _⟩
    · omega
    · exact ⟨b, cap, rfl, hl⟩
  obtain ⟨b, cap, rfl, hl⟩ := hcap
  have hb := World.ownsRow.lt ho b rfl
  have hlen : ∀ i r, rs[i]? = some r → i < rs.length := fun i r e => (List.getElem?_eq_some_iff.1 e).1
  have hat : ∀ i r t, rs[i]? = some r → t < sz → w.cell? ⟨b, i * sz + t, none⟩ = (cellsG hd ln r (g i) (caps i))[t]? := fun i r t e ht => by
    have : (i + 1) * sz ≤ rs.length * sz := Nat.mul_le_mul_right sz (hlen i r e)
    rw [Nat.add_mul] at this
    rw [World.ownsRow.cellAt ho _ (by omega)]
    exact flatG_at hh e ht
  refine ⟨b, cap, rfl, hb.1, hb.2, hl, fun j hj => ?_, ⟨rfl, fun i r e t z ht => ?_, fun i r e => ?_, h.low, h.lt, fun i hi e => h.ne i hi (by rw [e]; rfl), h.sub, h.inj⟩⟩
  · have hx : j < (flatG hd ln rs g caps).length := by rw [ho.1]; exact hj
    exact ⟨_, by rw [World.ownsRow.cellAt ho j hj]; exact List.getElem?_eq_getElem hx, World.ownsRow.frozenAt ho j⟩
  · have htl := (List.getElem?_eq_some_iff.1 ht).1
    have := hh r
    rw [hat i r t e (by omega), cellsG, List.getElem?_append_left (by simpa using htl), List.getElem?_map, ht]; rfl
  · have := hh r
    refine ⟨caps i, ?_, hc i r e⟩
    rw [hat i r (sz - 1) e (by omega), cellsG, List.getElem?_append_right (by simp; omega)]
    simp [show sz - 1 - (hd r).length = 0 by omega]
/-- One struct more. -/
theorem GrowG.push {α : Type} {T ST : TypeId} {sz by_ : Nat} {hd : α → List Int} {ln : α → Nat} {At : World → Nat → α → Prop} (hAt : ∀ (w w' : World) (b : Nat) (r : α), w'.heap[b]? = w.heap[b]? → At w b r → At w' b r) (hh : ∀ r, (hd r).length + 1 = sz) {P : Program} {i0 : TypeInfo} {z : Value} (ht : P.underlying ST = some (.slice T)) (hi : P.info? T = some i0) (hz : i0.zero = some z) (hs : i0.size = sz) (hby : i0.bytes = by_) (hzs : z.cells.size = sz) (hbb : by_ ≤ 1000)
    {W : World} {base e : Nat} {v : Value} {rs : List α} {g : Nat → Nat} (h : GrowG T sz hd ln At W base v rs g) (r : α) (q cap : Nat) (hm : rs.length ≤ 100000) (ty : TypeId)
    (he : ∀ j u, (cellsG hd ln r q cap)[j]? = some u → W.cell? ⟨e, j, none⟩ = some u) (hat : At W q r) (hc : ln r ≤ cap) (hq : base ≤ q) (hql : q < W.heap.size) (hn : v.ownBlock ≠ some q) (hf : ∀ i, i < rs.length → g i ≠ q) (hbase : base ≤ W.heap.size) :
    ∃ v' W', (Builtin.append_ #[ST, ST] ty #[v, .slice (some ⟨e, 0, none⟩) 1 1]).run P W = .ok v' W' ∧ GrowG T sz hd ln At W' base v' (rs ++ [r]) (fun i => if i = rs.length then q else g i) ∧ W.grownBy W' v.ownBlock ∧ (v'.ownBlock = v.ownBlock ∨ v'.ownBlock = some W.heap.size) := by
  obtain ⟨caps, ho, hcs⟩ := h.row
  have hadd : ∀ (b o j : Nat), (⟨b, o, none⟩ : Addr).add j = ⟨b, o + j, none⟩ := fun b o j => by unfold Addr.add; split <;> simp_all
  obtain ⟨v', W', hrun, hown, hg, hnil, hlies⟩ := run_append_own_at (P := P) W base ST ty T i0 z sz by_ ht hi hz hs hby hzs (by have := hh r; omega)
    v rs.length _ ho ⟨e, 0, none⟩ 1 1 (cellsG hd ln r q cap) (by simp [cellsG, hh]) (fun j u hu => by rw [hadd, Nat.zero_add]; exact he j u hu)
    (fun u hu => by
      simp only [cellsG, List.mem_append, List.mem_map, List.mem_singleton] at hu
      rcases hu with ⟨x, _, rfl⟩ | rfl <;> rfl) (by unfold maxLen; omega) (by
      have : (rs.length + 1) * by_ ≤ 100001 * 1000 := Nat.mul_le_mul (by omega) hbb
      omega) hbase
  have far : ∀ x, x < W.heap.size → v.ownBlock ≠ some x → W'.heap[x]? = W.heap[x]? := fun x hx hne => hg.block x hx (fun e' => hne e'.symm)
  have nev : ∀ x, x < W.heap.size → v.ownBlock ≠ some x → v'.ownBlock ≠ some x := fun x hx hne => by
    rcases hlies with e' | e'
    · rw [e']; exact hne
    · rw [e']; intro e''; cases e''; omega
  have split : ∀ i y, (rs ++ [r])[i]? = some y → (i < rs.length ∧ rs[i]? = some y) ∨ (i = rs.length ∧ y = r) := fun i y e => by
    by_cases hi : i < rs.length
    · rw [List.getElem?_append_left hi] at e
      exact .inl ⟨hi, e⟩
    · rw [List.getElem?_append_right (by omega)] at e
      have h0 : i - rs.length = 0 := by
        rcases Nat.eq_zero_or_pos (i - rs.length) with h | h
        · exact h
        · rw [List.getElem?_eq_none (by simp; omega)] at e; cases e
      rw [h0] at e
      simp at e
      exact .inr ⟨by omega, e.symm⟩
  have hlen : (rs ++ [r]).length = rs.length + 1 := by simp
  refine ⟨v', W', hrun, ⟨⟨fun i => if i = rs.length then cap else caps i, by rw [flatG_snoc, hlen]; exact hown, fun i y e' => ?_⟩, fun i hi' => ?_, fun i hi' => ?_, fun i hi' => ?_, fun i y e' => ?_, fun i j hi' hj' ee => ?_⟩, hg, hlies⟩
  · rcases split i y e' with ⟨hi', e'⟩ | ⟨rfl, rfl⟩
    · show ln y ≤ if i = rs.length then cap else caps i
      rw [if_neg (by omega)]; exact hcs i y e'
    · show ln y ≤ if rs.length = rs.length then cap else caps rs.length
      rw [if_pos rfl]; exact hc
  · by_cases e' : i = rs.length
    · rw [if_pos e']; exact hq
    · rw [if_neg e']; exact h.low i (by omega)
  · by_cases e' : i = rs.length
    · rw [if_pos e']; exact Nat.lt_of_lt_of_le hql hg.size
    · rw [if_neg e']; exact Nat.lt_of_lt_of_le (h.lt i (by omega)) hg.size
  · by_cases e' : i = rs.length
    · rw [if_pos e']; exact nev q hql hn
    · rw [if_neg e']; exact nev _ (h.lt i (by omega)) (h.ne i (by omega))
  · rcases split i y e' with ⟨hi', e'⟩ | ⟨rfl, rfl⟩
    · rw [if_neg (by omega)]; exact hAt _ _ _ _ (far _ (h.lt i hi') (h.ne i hi')) (h.sub i y e')
    · rw [if_pos rfl]; exact hAt _ _ _ _ (far _ hql hn) hat
  · by_cases ei : i = rs.length <;> by_cases ek : j = rs.length
    · omega
    · simp only [if_pos ei, if_neg ek] at ee; exact absurd ee.symm (hf j (by omega))
    · simp only [if_neg ei, if_pos ek] at ee; exact absurd ee (hf i (by omega))
    · simp only [if_neg ei, if_neg ek] at ee; exact h.inj i j (by omega) (by omega) ee
end Go.Proofs.YtalmflikdnflfaaGreat
/- Rows that append copies whole into memory of a call's own: the program's ownCells and ownRecord, the specification's l3Copy and l6Record. -/
namespace Go.Proofs.YtalmflikdnflfaaGreat
open Go.RowKit
/-- append of elements onto none. -/
theorem appendX {α : Type} {cells : α → List Value} {T ST : TypeId} {sz by_ : Nat} (hl : ∀ s, (cells s).length = sz) (h1 : ∀ s, ∀ u ∈ cells s, u.oneCell' = true) (hsz : 0 < sz) {P : Program} {i0 : TypeInfo} {z : Value} (ht : P.underlying ST = some (.slice T)) (hi : P.info? T = some i0) (hz : i0.zero = some z) (hs : i0.size = sz) (hby : i0.bytes = by_) (hzs : z.cells.size = sz) (hbb : by_ ≤ 1000)
    {W : World} {base : Nat} {v : Value} (h : W.ownsRow base T sz v 0 []) (xs : List α) (hx : 0 < xs.length) (hm : xs.length ≤ 1048576) (ty : TypeId) (b off k : Nat) (src : ∀ i s, xs[i]? = some s → ∀ t u, (cells s)[t]? = some u → W.cell? ⟨b, off + i * sz + t, none⟩ = some u) (hbase : base ≤ W.heap.size) :
    ∃ q cap W', (Builtin.append_ #[ST, ST] ty #[v, .slice (some ⟨b, off, none⟩) xs.length k]).run P W = .ok (.slice (some ⟨q, 0, none⟩) xs.length cap) W' ∧ base ≤ q ∧ q < W'.heap.size ∧ xs.length ≤ cap ∧ (∀ i s, xs[i]? = some s → ∀ t u, (cells s)[t]? = some u → W'.cell? ⟨q, i * sz + t, none⟩ = some u) ∧ Room W' q (xs.length * sz) ∧ W.grownBy W' v.ownBlock ∧ (v.ownBlock = some q ∨ q = W.heap.size) ∧ W'.ownsRow base T sz (.slice (some ⟨q, 0, none⟩) xs.length cap) xs.length (xs.flatMap cells) := by
  have hadd : ∀ (b o j : Nat), (⟨b, o, none⟩ : Addr).add j = ⟨b, o + j, none⟩ := fun b o j => by unfold Addr.add; split <;> simp_all
  have hfl : ∀ l : List α, (l.flatMap cells).length = l.length * sz := fun l => by
    induction l with
    | nil => simp
    | cons y l ih => rw [List.flatMap_cons, List.length_append, ih, hl, List.length_cons, Nat.add_mul]; omega
  obtain ⟨v', W', hrun, hown, hg, hnil, hlies⟩ := run_append_own_at (P := P) W base ST ty T i0 z sz by_ ht hi hz hs hby hzs hsz
    v 0 [] h ⟨b, off, none⟩ xs.length k (xs.flatMap cells) (hfl xs) (fun j u hu => by
      have hj : j < xs.length * sz := by rw [← hfl]; exact (List.getElem?_eq_some_iff.1 hu).1
      have hi : j / sz < xs.length := Nat.div_lt_of_lt_mul (by rw [Nat.mul_comm]; exact hj)
      have hxs := List.getElem?_eq_getElem hi
      have hjt : j / sz * sz + j % sz = j := Nat.div_add_mod' j sz
      have := flat_at (f := cells) (l := xs) (fun x _ => hl x) hxs (Nat.mod_lt j hsz)
      rw [hjt] at this
      rw [hadd, ← hjt, ← Nat.add_assoc]
      exact src _ _ hxs _ u (by rw [← this]; exact hu))
    (fun u hu => by obtain ⟨s, _, hs⟩ := List.mem_flatMap.1 hu; exact h1 s u hs) (by unfold maxLen; omega) (by
      have : (0 + xs.length) * by_ ≤ 1048576 * 1000 := Nat.mul_le_mul (by omega) hbb
      omega) hbase
  rw [Nat.zero_add, List.nil_append] at hown
  have hcap : ∃ q cap, v' = .slice (some ⟨q, 0, none⟩) xs.length cap ∧ xs.length ≤ cap := by
    rcases hown.2 with ⟨_, h0⟩ | ⟨q, cap, cur, rfl, _, _, hl, _⟩
    · omega
    · exact ⟨q, cap, rfl, hl⟩
  obtain ⟨q, cap, rfl, hc⟩ := hcap
  have hb := World.ownsRow.lt hown q rfl
  refine ⟨q, cap, W', hrun, hb.1, hb.2, hc, fun i s e t u hu => ?_, fun j hj => ?_, hg, ?_, hown⟩
  · have hi := (List.getElem?_eq_some_iff.1 e).1
    have ht := (List.getElem?_eq_some_iff.1 hu).1
    rw [hl] at ht
    have : (i + 1) * sz ≤ xs.length * sz := Nat.mul_le_mul_right sz hi
    rw [Nat.add_mul] at this
    rw [World.ownsRow.cellAt hown _ (by omega), flat_at (fun x _ => hl x) e ht]; exact hu
  · exact ⟨_, by rw [World.ownsRow.cellAt hown j hj]; exact List.getElem?_eq_getElem (by rw [hfl]; exact hj), World.ownsRow.frozenAt hown j⟩
  · rcases hlies with e | e
    · exact .inl e.symm
    · exact .inr (Option.some.inj e)
theorem infoSet : (Tryz.prog.info? 74).map (fun i => (i.zero, i.size, i.bytes)) = some (some (.agg #[.int .i64 0, .int .i64 0, .int .i64 0, .bool false, .int .i64 0]), 5, 40) := by kernel_rfl
theorem infoI64 : (Tryz.prog.info? 2).map (fun i => (i.zero, i.size, i.bytes)) = some (some (.int .i64 0), 1, 8) := by kernel_rfl
theorem partsOf {P : Program} {t : TypeId} {z : Value} {s b : Nat} (h : (P.info? t).map (fun i => (i.zero, i.size, i.bytes)) = some (some z, s, b)) : ∃ i, P.info? t = some i ∧ i.zero = some z ∧ i.size = s ∧ i.bytes = b := by
  obtain ⟨i, hi, hzz⟩ := Option.map_eq_some_iff.1 h
  simp only [Prod.mk.injEq] at hzz
  exact ⟨i, hi, hzz.1, hzz.2.1, hzz.2.2⟩
theorem appendC (W : World) (base : Nat) (v : Value) (h : W.ownsRow base 109 2 v 0 []) (xs : List C2) (hx : 0 < xs.length) (hm : xs.length ≤ 1048576) (ty : TypeId) (b off k : Nat) (src : CellsAt W b off xs) (hbase : base ≤ W.heap.size) :
    ∃ q cap W', (Builtin.append_ #[47, 47] ty #[v, .slice (some ⟨b, off, none⟩) xs.length k]).run Tryz.prog W = .ok (.slice (some ⟨q, 0, none⟩) xs.length cap) W' ∧ base ≤ q ∧ q < W'.heap.size ∧ xs.length ≤ cap ∧ CellsAt W' q 0 xs ∧ Room W' q (xs.length * 2) ∧ W.grownBy W' v.ownBlock ∧ (v.ownBlock = some q ∨ q = W.heap.size) := by
  obtain ⟨i0, hi0, hz0, hz1, hz2⟩ := partsOf info_cell
  obtain ⟨q, cap, W', h1, h2, h3, h4, h5, h6, h7, h8, _⟩ := appendX (cells := C2.cells) (fun _ => rfl) (fun s u hu => by
    simp only [C2.cells, List.mem_cons, List.not_mem_nil, or_false] at hu
    rcases hu with rfl | rfl <;> rfl) (by omega) Tryz.underlying47 hi0 hz0 hz1 hz2 rfl (by omega) h xs hx hm ty b off k (fun i s e t u hu => by
      obtain ⟨c0, c1⟩ := src i s e
      rcases t with _ | _ | t
      · simp [C2.cells] at hu; subst hu; exact c0
      · simp [C2.cells] at hu; subst hu; exact c1
      · simp [C2.cells] at hu) hbase
  refine ⟨q, cap, W', h1, h2, h3, h4, fun i s e => ⟨?_, ?_⟩, h6, h7, h8⟩
  · rw [Nat.zero_add]; exact h5 i s e 0 _ rfl
  · rw [Nat.zero_add]; exact h5 i s e 1 _ rfl
def S5.cellsL (s : S5) : List Value := [.int .i64 s.region, .int .i64 s.slot, .int .i64 s.value, .bool s.used, .int .i64 s.version]
theorem appendS (W : World) (base : Nat) (v : Value) (h : W.ownsRow base 74 5 v 0 []) (xs : List S5) (hx : 0 < xs.length) (hm : xs.length ≤ 1048576) (ty : TypeId) (b off k : Nat) (src : SetsAt W b off xs) (hbase : base ≤ W.heap.size) :
    ∃ q cap W', (Builtin.append_ #[38, 38] ty #[v, .slice (some ⟨b, off, none⟩) xs.length k]).run Tryz.prog W = .ok (.slice (some ⟨q, 0, none⟩) xs.length cap) W' ∧ base ≤ q ∧ q < W'.heap.size ∧ xs.length ≤ cap ∧ SetsAt W' q 0 xs ∧ Room W' q (xs.length * 5) ∧ W.grownBy W' v.ownBlock ∧ (v.ownBlock = some q ∨ q = W.heap.size) := by
  obtain ⟨i0, hi0, hz0, hz1, hz2⟩ := partsOf infoSet
  obtain ⟨q, cap, W', h1, h2, h3, h4, h5, h6, h7, h8, _⟩ := appendX (cells := S5.cellsL) (fun _ => rfl) (fun s u hu => by
    simp only [S5.cellsL, List.mem_cons, List.not_mem_nil, or_false] at hu
    rcases hu with rfl | rfl | rfl | rfl | rfl <;> rfl) (by omega) Tryz.underlying38 hi0 hz0 hz1 hz2 rfl (by omega) h xs hx hm ty b off k (fun i s e t u hu => by
      obtain ⟨c0, c1, c2, c3, c4⟩ := src i s e
      rcases t with _ | _ | _ | _ | _ | t
      · simp [S5.cellsL] at hu; subst hu; exact c0
      · simp [S5.cellsL] at hu; subst hu; exact c1
      · simp [S5.cellsL] at hu; subst hu; exact c2
      · simp [S5.cellsL] at hu; subst hu; exact c3
      · simp [S5.cellsL] at hu; subst hu; exact c4
      · simp [S5.cellsL] at hu) hbase
  refine ⟨q, cap, W', h1, h2, h3, h4, fun i s e => ⟨?_, ?_, ?_, ?_, ?_⟩, h6, h7, h8⟩
  · rw [Nat.zero_add]; exact h5 i s e 0 _ rfl
  · rw [Nat.zero_add]; exact h5 i s e 1 _ rfl
  · rw [Nat.zero_add]; exact h5 i s e 2 _ rfl
  · rw [Nat.zero_add]; exact h5 i s e 3 _ rfl
  · rw [Nat.zero_add]; exact h5 i s e 4 _ rfl
theorem owns_nil (W : World) (base : Nat) (T : TypeId) (sz : Nat) : W.ownsRow base T sz (.slice none 0 0) 0 [] := ⟨by simp, .inl ⟨rfl, rfl⟩⟩
set_option maxHeartbeats 1000000 in
theorem ownCells_any (w : World) (a : Option Addr) (cap : Nat) (xs : List C2) (hx : 0 < xs.length) (hm : xs.length ≤ 1048576) (hs : SlC w w.heap.size a xs.length xs) :
    Calls Tryz.prog 269 #[.slice a xs.length cap] w fun e w' => ∃ q cp, e = .returned (.slice (some ⟨q, 0, none⟩) xs.length cp) ∧ w.heap.size ≤ q ∧ q < w'.heap.size ∧ xs.length ≤ cp ∧ CellsAt w' q 0 xs ∧ Room w' q (xs.length * 2) ∧ Below w.heap.size w w' := by
  obtain ⟨_, hs⟩ := hs
  rcases hs with hs | ⟨b, off, rfl, hb, h1⟩
  · omega
  obtain ⟨q, cp, W', hr, h2, h3, h4, h5, h6, h7, h8⟩ := appendC w w.heap.size (.slice none 0 0) (owns_nil _ _ _ _) xs hx hm 47 b off cap h1 (Nat.le_refl _)
  have K : Hid (w.heap.size ≤ q ∧ q < W'.heap.size ∧ xs.length ≤ cp ∧ CellsAt W' q 0 xs ∧ Room W' q (xs.length * 2) ∧ Below w.heap.size w W') := ⟨h2, h3, h4, h5, h6, (Below.refl _ _).grown h7 (Nat.le_refl _) (fun k h => by cases h)⟩
  clear h1 h2 h3 h4 h5 h6 h7 h8 hx hm
  generalize xs.length = n at *
  go_enter Tryz.func269, Tryz.ntmps269
  go_wp2_with (at_builtin; refine append_known _ rfl (.const (.slice none 0 0)) (.tmp 3) 47 rfl _ _ _ _ rfl rfl hr ?_)
  go_ret
  exact ⟨q, cp, rfl, K.out.1, K.out.2.1, K.out.2.2.1, K.out.2.2.2.1, K.out.2.2.2.2.1, K.out.2.2.2.2.2⟩
set_option maxHeartbeats 1000000 in
theorem l3Copy_any (w : World) (a : Option Addr) (cap : Nat) (xs : List C2) (hx : 0 < xs.length) (hm : xs.length ≤ 1048576) (hs : SlC w w.heap.size a xs.length xs) :
    Calls Tryz.prog 64 #[.slice a xs.length cap] w fun e w' => ∃ q cp, e = .returned (.slice (some ⟨q, 0, none⟩) xs.length cp) ∧ w.heap.size ≤ q ∧ q < w'.heap.size ∧ xs.length ≤ cp ∧ CellsAt w' q 0 xs ∧ Room w' q (xs.length * 2) ∧ Below w.heap.size w w' := by
  obtain ⟨_, hs⟩ := hs
  rcases hs with hs | ⟨b, off, rfl, hb, h1⟩
  · omega
  have b0 : Below w.heap.size w (w.alloc (.cells #[] 109)) := (Below.refl _ _).alloc (Nat.le_refl _) _
  obtain ⟨q, cp, W', hr, h2, h3, h4, h5, h6, h7, h8⟩ := appendC (w.alloc (.cells #[] 109)) w.heap.size (.slice (some ⟨w.heap.size, 0, none⟩) 0 0) (World.ownsRow_made w #[] 0 (Nat.le_refl _) (Nat.zero_le _) rfl) xs hx hm 47 b off cap (h1.below b0 hb) b0.size
  have K : Hid (w.heap.size ≤ q ∧ q < W'.heap.size ∧ xs.length ≤ cp ∧ CellsAt W' q 0 xs ∧ Room W' q (xs.length * 2) ∧ Below w.heap.size w W') := ⟨h2, h3, h4, h5, h6, b0.grown h7 b0.size (fun k h => by cases h; exact Nat.le_refl _)⟩
  clear h1 h2 h3 h4 h5 h6 h7 h8 hx hm b0
  generalize xs.length = n at *
  go_enter Tryz.func64, Tryz.ntmps64
  go_wp2_with (at_builtin; refine append_known _ rfl (.tmp 3) (.tmp 4) 47 rfl _ _ _ _ rfl rfl hr ?_)
  go_ret
  exact ⟨q, cp, rfl, K.out.1, K.out.2.1, K.out.2.2.1, K.out.2.2.2.1, K.out.2.2.2.2.1, K.out.2.2.2.2.2⟩
end Go.Proofs.YtalmflikdnflfaaGreat
