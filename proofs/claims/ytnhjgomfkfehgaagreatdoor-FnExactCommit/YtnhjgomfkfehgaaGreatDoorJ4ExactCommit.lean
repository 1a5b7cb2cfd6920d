/- Grow; KdGr; ToM; KdM0; MacSl; KdMk; KdMS; YSeD; YNoD; YTxD; YTxB; YTxL; YTxM; YTxE0; YTxSl; KdT; KdTS; PlsO; PlsL2; KdCl; IdxR: joined. -/
import Derived.Test.YtnhjgomfkfehgaaGreatDoorRows
import Derived.Test.YtnhjgomfkfehgaaGreatDoorJ3ExactCommit
import Derived.Below
import Derived.Maps.AppendAt
import Derived.Laws.OwnMore
import Derived.Deep.AppendLies
import Derived.Test.YtnhjgomfkfehgaaGreatDoorJ2ExactCommit
import Derived.WalkKit
import Derived.WalkSpells
import Derived.WalkLawsBesides
import Derived.Lib.QuietBelow
import Derived.BigQuiet
import Derived.Deep.QuietTactic
namespace Go.Proofs.YtnhjgomfkfehgaaGreatDoor
open Go.RowKit
def cellsG {α : Type} (hd : α → List Int) (ln : α → Nat) (r : α) (q cap : Nat) : List Value := (hd r).map (Value.int .i64) ++ [.slice (some ⟨q, 0, none⟩) (ln r) cap]
def flatG {α : Type} (hd : α → List Int) (ln : α → Nat) (rs : List α) (g caps : Nat → Nat) : List Value := rs.zipIdx.flatMap fun p => cellsG hd ln p.1 (g p.2) (caps p.2)
theorem flat_at {β : Type} {f : β → List Value} {sz : Nat} : ∀ {l : List β} (_ : ∀ x ∈ l, (f x).length = sz) {i t : Nat} {x : β}, l[i]? = some x → t < sz → (l.flatMap f)[i * sz + t]? = (f x)[t]?
  | [], _, i, t, x, h, _ => by simp at h
  | y :: l, hf, 0, t, x, h, ht => by
    simp at h
    subst h
    rw [List.flatMap_cons, List.getElem?_append_left (by rw [hf y (by simp)]; omega)]
    simp
  | y :: l, hf, i + 1, t, x, h, ht => by
    have hl := hf y (by simp)
    rw [List.flatMap_cons, List.getElem?_append_right (by rw [hl, Nat.add_mul]; omega), hl, show (i + 1) * sz + t - sz = i * sz + t by rw [Nat.add_mul]; omega]
    exact flat_at (fun x hx => hf x (by simp [hx])) (by simpa using h) ht
theorem flatG_at {α : Type} {hd : α → List Int} {ln : α → Nat} {sz : Nat} (hh : ∀ r, (hd r).length + 1 = sz) {rs : List α} {g caps : Nat → Nat} {i t : Nat} {r : α} (h : rs[i]? = some r) (ht : t < sz) : (flatG hd ln rs g caps)[i * sz + t]? = (cellsG hd ln r (g i) (caps i))[t]? := by
  have h' : rs.zipIdx[i]? = some (r, i) := by simp [h]
  exact flat_at (f := fun p : α × Nat => cellsG hd ln p.1 (g p.2) (caps p.2)) (fun x _ => by simp [cellsG, hh]) h' ht
theorem flat_cong {β : Type} {f f' : β → List Value} : ∀ {l : List β}, (∀ x ∈ l, f x = f' x) → l.flatMap f = l.flatMap f'
  | [], _ => rfl
  | y :: l, h => by rw [List.flatMap_cons, List.flatMap_cons, h y (by simp), flat_cong (fun x hx => h x (by simp [hx]))]
theorem flatG_snoc {α : Type} {hd : α → List Int} {ln : α → Nat} (rs : List α) (r : α) (g caps : Nat → Nat) (q cap : Nat) : flatG hd ln (rs ++ [r]) (fun i => if i = rs.length then q else g i) (fun i => if i = rs.length then cap else caps i) = flatG hd ln rs g caps ++ cellsG hd ln r q cap := by
  unfold flatG
  rw [List.zipIdx_append, List.flatMap_append]
  congr 1
  · have : ∀ p ∈ rs.zipIdx, p.2 < rs.length := fun p hp => by
      have := List.snd_lt_of_mem_zipIdx hp
      omega
    refine flat_cong fun p hp => ?_
    have := this p hp
    simp only [if_neg (show p.2 ≠ rs.length by omega)]
  · simp
structure GrowG {α : Type} (T : TypeId) (sz : Nat) (hd : α → List Int) (ln : α → Nat) (At : World → Nat → α → Prop) (w : World) (base : Nat) (v : Value) (rs : List α) (g : Nat → Nat) : Prop where
  row : ∃ caps : Nat → Nat, w.ownsRow base T sz v rs.length (flatG hd ln rs g caps) ∧ ∀ i r, rs[i]? = some r → ln r ≤ caps i
  low : ∀ i, i < rs.length → base ≤ g i
  lt : ∀ i, i < rs.length → g i < w.heap.size
  ne : ∀ i, i < rs.length → v.ownBlock ≠ some (g i)
  sub : ∀ i r, rs[i]? = some r → At w (g i) r
  inj : ∀ i j, i < rs.length → j < rs.length → g i = g j → i = j
theorem GrowG.nil {α : Type} {T : TypeId} {sz : Nat} {hd : α → List Int} {ln : α → Nat} {At : World → Nat → α → Prop} (w : World) (base : Nat) (g : Nat → Nat) : GrowG T sz hd ln At w base (.slice none 0 0) [] g :=
  ⟨⟨fun _ => 0, ⟨by simp [flatG], .inl ⟨rfl, rfl⟩⟩, fun i r e => by simp at e⟩, fun i h => by simp at h, fun i h => by simp at h, fun i h => by simp at h, fun i r e => by simp at e, fun i j h => by simp at h⟩
theorem GrowG.lies {α : Type} {T : TypeId} {sz : Nat} {hd : α → List Int} {ln : α → Nat} {At : World → Nat → α → Prop} {w : World} {base : Nat} {v : Value} {rs : List α} {g : Nat → Nat} (h : GrowG T sz hd ln At w base v rs g) {q : Nat} (e : v.ownBlock = some q) : base ≤ q ∧ q < w.heap.size := by
  obtain ⟨caps, ho, _⟩ := h.row
  exact World.ownsRow.lt ho q e
theorem GrowG.keep {α : Type} {T : TypeId} {sz : Nat} {hd : α → List Int} {ln : α → Nat} {At : World → Nat → α → Prop} (hAt : ∀ (w w' : World) (b : Nat) (r : α), w'.heap[b]? = w.heap[b]? → At w b r → At w' b r) {w w' : World} {base : Nat} {v : Value} {rs : List α} {g : Nat → Nat} (h : GrowG T sz hd ln At w base v rs g) (hsz : w.heap.size ≤ w'.heap.size) (hs : ∀ q, q < w.heap.size → (v.ownBlock = some q ∨ ∃ i, i < rs.length ∧ g i = q) → w'.heap[q]? = w.heap[q]?) : GrowG T sz hd ln At w' base v rs g := by
  obtain ⟨caps, ho, hc⟩ := h.row
  refine ⟨⟨caps, ⟨ho.1, ho.2.imp id ?_⟩, hc⟩, h.low, fun i hi => Nat.lt_of_lt_of_le (h.lt i hi) hsz, h.ne, fun i r e => ?_, h.inj⟩
  · rintro ⟨q, cap, cur, rfl, l, hg, r⟩
    exact ⟨q, cap, cur, rfl, l, (hs q (World.ownsRow.lt ho q rfl).2 (.inl rfl)).trans hg, r⟩
  · have hi := (List.getElem?_eq_some_iff.1 e).1
    exact hAt _ _ _ _ (hs _ (h.lt i hi) (.inr ⟨i, hi, rfl⟩)) (h.sub i r e)
theorem GrowG.later {α : Type} {T : TypeId} {sz : Nat} {hd : α → List Int} {ln : α → Nat} {At : World → Nat → α → Prop} (hAt : ∀ (w w' : World) (b : Nat) (r : α), w'.heap[b]? = w.heap[b]? → At w b r → At w' b r) {w w' : World} {base : Nat} {v : Value} {rs : List α} {g : Nat → Nat} (h : GrowG T sz hd ln At w base v rs g) (hb : Below w.heap.size w w') : GrowG T sz hd ln At w' base v rs g := h.keep hAt hb.size (fun q hq _ => hb.block q hq)
theorem GrowG.own {α : Type} {T : TypeId} {sz : Nat} {hd : α → List Int} {ln : α → Nat} {At : World → Nat → α → Prop} (hh : ∀ r, (hd r).length + 1 = sz) {w : World} {base : Nat} {v : Value} {rs : List α} {g : Nat → Nat} (h : GrowG T sz hd ln At w base v rs g) (hne : rs ≠ []) :
    ∃ b cap, v = .slice (some ⟨b, 0, none⟩) rs.length cap ∧ base ≤ b ∧ b < w.heap.size ∧ rs.length ≤ cap ∧ Room w b (rs.length * sz) ∧ OwnG sz hd ln At w base b rs.length rs g := by
  obtain ⟨caps, ho, hc⟩ := h.row
  have hpos : 0 < rs.length := List.length_pos_iff.2 hne
  have hcap : ∃ b cap, v = .slice (some ⟨b, 0, none⟩) rs.length cap ∧ rs.length ≤ cap := by
    rcases ho.2 with ⟨_, h0⟩ | ⟨b, cap, cur, rfl, _, _, hl, _⟩
    · omega
    · exact ⟨b, cap, rfl, hl⟩
  obtain ⟨b, cap, rfl, hl⟩ := hcap
  have hb := World.ownsRow.lt ho b rfl
  have hlen : ∀ i r, rs[i]? = some r → i < rs.length := fun i r e => (List.getElem?_eq_some_iff.1 e).1
  have hat : ∀ i r t, rs[i]? = some r → t < sz → w.cell? ⟨b, i * sz + t, none⟩ = (cellsG hd ln r (g i) (caps i))[t]? := fun i r t e ht => by
    have : (i + 1) * sz ≤ rs.length * sz := Nat.mul_le_mul_right sz (hlen i r e)
    rw [Nat.add_mul] at this
    rw [World.ownsRow.cellAt ho _ (by omega)]
    exact flatG_at hh e ht
  refine ⟨b, cap, rfl, hb.1, hb.2, hl, fun j hj => ?_, ⟨rfl, fun i r e t z ht => ?_, fun i r e => ?_, h.low, h.lt, fun i hi e => h.ne i hi (by rw [e]; rfl), h.sub, h.inj⟩⟩
  · have hx : j < (flatG hd ln rs g caps).length := by rw [ho.1]; exact hj
    exact ⟨_, by rw [World.ownsRow.cellAt ho j hj]; exact List.getElem?_eq_getElem hx, World.ownsRow.frozenAt ho j⟩
  · have htl := (List.getElem?_eq_some_iff.1 ht).1
    have := hh r
    rw [hat i r t e (by omega), cellsG, List.getElem?_append_left (by simpa using htl), List.getElem?_map, ht]; rfl
  · have := hh r
    refine ⟨caps i, ?_, hc i r e⟩
    rw [hat i r (sz - 1) e (by omega), cellsG, List.getElem?_append_right (by simp; omega)]
    simp [show sz - 1 - (hd r).length = 0 by omega]
theorem GrowG.push {α : Type} {T ST : TypeId} {sz by_ : Nat} {hd : α → List Int} {ln : α → Nat} {At : World → Nat → α → Prop} (hAt : ∀ (w w' : World) (b : Nat) (r : α), w'.heap[b]? = w.heap[b]? → At w b r → At w' b r) (hh : ∀ r, (hd r).length + 1 = sz) {P : Program} {i0 : TypeInfo} {z : Value} (ht : P.underlying ST = some (.slice T)) (hi : P.info? T = some i0) (hz : i0.zero = some z) (hs : i0.size = sz) (hby : i0.bytes = by_) (hzs : z.cells.size = sz) (hbb : by_ ≤ 1000)
    {W : World} {base e : Nat} {v : Value} {rs : List α} {g : Nat → Nat} (h : GrowG T sz hd ln At W base v rs g) (r : α) (q cap : Nat) (hm : rs.length ≤ 100000) (ty : TypeId)
    (he : ∀ j u, (cellsG hd ln r q cap)[j]? = some u → W.cell? ⟨e, j, none⟩ = some u) (hat : At W q r) (hc : ln r ≤ cap) (hq : base ≤ q) (hql : q < W.heap.size) (hn : v.ownBlock ≠ some q) (hf : ∀ i, i < rs.length → g i ≠ q) (hbase : base ≤ W.heap.size) :
    ∃ v' W', (Builtin.append_ #[ST, ST] ty #[v, .slice (some ⟨e, 0, none⟩) 1 1]).run P W = .ok v' W' ∧ GrowG T sz hd ln At W' base v' (rs ++ [r]) (fun i => if i = rs.length then q else g i) ∧ W.grownBy W' v.ownBlock ∧ (v'.ownBlock = v.ownBlock ∨ v'.ownBlock = some W.heap.size) := by
  obtain ⟨caps, ho, hcs⟩ := h.row
  have hadd : ∀ (b o j : Nat), (⟨b, o, none⟩ : Addr).add j = ⟨b, o + j, none⟩ := fun b o j => by unfold Addr.add; split <;> simp_all
  obtain ⟨v', W', hrun, hown, hg, hnil, hlies⟩ := run_append_own_at (P := P) W base ST ty T i0 z sz by_ ht hi hz hs hby hzs (by have := hh r; omega)
    v rs.length _ ho ⟨e, 0, none⟩ 1 1 (cellsG hd ln r q cap) (by simp [cellsG, hh]) (fun j u hu => by rw [hadd, Nat.zero_add]; exact he j u hu)
    (fun u hu => by
      simp only [cellsG, List.mem_append, List.mem_map, List.mem_singleton] at hu
      rcases hu with ⟨x, _, rfl⟩ | rfl <;> rfl) (by unfold maxLen; omega) (by
      have : (rs.length + 1) * by_ ≤ 100001 * 1000 := Nat.mul_le_mul (by omega) hbb
      omega) hbase
  have far : ∀ x, x < W.heap.size → v.ownBlock ≠ some x → W'.heap[x]? = W.heap[x]? := fun x hx hne => hg.block x hx (fun e' => hne e'.symm)
  have nev : ∀ x, x < W.heap.size → v.ownBlock ≠ some x → v'.ownBlock ≠ some x := fun x hx hne => by
    rcases hlies with e' | e'
    · rw [e']; exact hne
    · rw [e']; intro e''; cases e''; omega
  have split : ∀ i y, (rs ++ [r])[i]? = some y → (i < rs.length ∧ rs[i]? = some y) ∨ (i = rs.length ∧ y = r) := fun i y e => by
    by_cases hi : i < rs.length
    · rw [List.getElem?_append_left hi] at e
      exact .inl ⟨hi, e⟩
    · rw [List.getElem?_append_right (by omega)] at e
      have h0 : i - rs.length = 0 := by
        rcases Nat.eq_zero_or_pos (i - rs.length) with h | h
        · exact h
        · rw [List.getElem?_eq_none (by simp; omega)] at e; cases e
      rw [h0] at e
      simp at e
      exact .inr ⟨by omega, e.symm⟩
  have hlen : (rs ++ [r]).length = rs.length + 1 := by simp
  refine ⟨v', W', hrun, ⟨⟨fun i => if i = rs.length then cap else caps i, by rw [flatG_snoc, hlen]; exact hown, fun i y e' => ?_⟩, fun i hi' => ?_, fun i hi' => ?_, fun i hi' => ?_, fun i y e' => ?_, fun i j hi' hj' ee => ?_⟩, hg, hlies⟩
  · rcases split i y e' with ⟨hi', e'⟩ | ⟨rfl, rfl⟩
    · show ln y ≤ if i = rs.length then cap else caps i
      rw [if_neg (by omega)]; exact hcs i y e'
    · show ln y ≤ if rs.length = rs.length then cap else caps rs.length
      rw [if_pos rfl]; exact hc
  · by_cases e' : i = rs.length
    · rw [if_pos e']; exact hq
    · rw [if_neg e']; exact h.low i (by omega)
  · by_cases e' : i = rs.length
    · rw [if_pos e']; exact Nat.lt_of_lt_of_le hql hg.size
    · rw [if_neg e']; exact Nat.lt_of_lt_of_le (h.lt i (by omega)) hg.size
  · by_cases e' : i = rs.length
    · rw [if_pos e']; exact nev q hql hn
    · rw [if_neg e']; exact nev _ (h.lt i (by omega)) (h.ne i (by omega))
  · rcases split i y e' with ⟨hi', e'⟩ | ⟨rfl, rfl⟩
    · rw [if_neg (by omega)]; exact hAt _ _ _ _ (far _ (h.lt i hi') (h.ne i hi')) (h.sub i y e')
    · rw [if_pos rfl]; exact hAt _ _ _ _ (far _ hql hn) hat
  · by_cases ei : i = rs.length <;> by_cases ek : j = rs.length
    · omega
    · simp only [if_pos ei, if_neg ek] at ee; exact absurd ee.symm (hf j (by omega))
    · simp only [if_neg ei, if_pos ek] at ee; exact absurd ee (hf i (by omega))
    · simp only [if_neg ei, if_neg ek] at ee; exact h.inj i j (by omega) (by omega) ee
def Kd.flat {D V : Type} (K : Kd D V) (ps : List (V × D)) : List Value := ps.flatMap fun p => K.cells p.1 p.2
theorem Kd.flat_len {D V : Type} (K : Kd D V) (ps : List (V × D)) : (K.flat ps).length = ps.length * K.n := by
  induction ps with
  | nil => simp [Kd.flat]
  | cons p ps ih =>
    unfold Kd.flat at ih ⊢
    rw [List.flatMap_cons, List.length_append, ih, K.len, List.length_cons, Nat.add_mul]
    omega
theorem Kd.flat_at {D V : Type} (K : Kd D V) {ps : List (V × D)} {i t : Nat} {p : V × D} (h : ps[i]? = some p) (ht : t < K.n) : (K.flat ps)[i * K.n + t]? = (K.cells p.1 p.2)[t]? := Go.Proofs.YtnhjgomfkfehgaaGreatDoor.flat_at (f := fun p : V × D => K.cells p.1 p.2) (fun _ _ => K.len _ _) h ht
theorem Kd.flat_snoc {D V : Type} (K : Kd D V) (ps : List (V × D)) (p : V × D) : K.flat (ps ++ [p]) = K.flat ps ++ K.cells p.1 p.2 := by simp [Kd.flat]
structure Kd.Grow {D V : Type} (K : Kd D V) (T : TypeId) (X : World) (B : Nat) (v : Value) (ps : List (V × D)) (g : Nat → Nat → Prop) : Prop where
  row : X.ownsRow B T K.n v ps.length (K.flat ps)
  sub : ∀ i p, ps[i]? = some p → K.Ow X B p.1 p.2 (g i)
  ne : ∀ i q, i < ps.length → g i q → v.ownBlock ≠ some q
  ap : ∀ i j q, i < ps.length → j < ps.length → i ≠ j → g i q → ¬ g j q
def Kd.blk {D V : Type} (v : Value) (ps : List (V × D)) (g : Nat → Nat → Prop) (q : Nat) : Prop := v.ownBlock = some q ∨ ∃ i, i < ps.length ∧ g i q
theorem Kd.Grow.nil {D V : Type} (K : Kd D V) (T : TypeId) (X : World) (B : Nat) (g : Nat → Nat → Prop) : K.Grow T X B (.slice none 0 0) [] g :=
  ⟨⟨by simp [Kd.flat], .inl ⟨rfl, rfl⟩⟩, fun i p e => by simp at e, fun i q h => by simp at h, fun i j q h => by simp at h⟩
theorem Kd.Grow.blocks {D V : Type} {K : Kd D V} {T : TypeId} {X : World} {B : Nat} {v : Value} {ps : List (V × D)} {g : Nat → Nat → Prop} (h : K.Grow T X B v ps g) {q : Nat} (hq : Kd.blk v ps g q) : B ≤ q ∧ q < X.heap.size := by
  rcases hq with e | ⟨i, hi, hq⟩
  · exact World.ownsRow.lt h.row q e
  · exact K.of (h.sub i _ (List.getElem?_eq_getElem hi)) hq
theorem Kd.Grow.keep {D V : Type} {K : Kd D V} {T : TypeId} {X Y : World} {B : Nat} {v : Value} {ps : List (V × D)} {g : Nat → Nat → Prop} (h : K.Grow T X B v ps g) (hs : X.heap.size ≤ Y.heap.size) (hk : ∀ q, Kd.blk v ps g q → Y.heap[q]? = X.heap[q]?) : K.Grow T Y B v ps g := by
  refine ⟨⟨h.row.1, h.row.2.imp id ?_⟩, fun i p e => K.keep (h.sub i p e) hs (fun q hq => hk q (.inr ⟨i, (List.getElem?_eq_some_iff.1 e).1, hq⟩)), h.ne, h.ap⟩
  rintro ⟨q, cap, cur, rfl, l, hg, r⟩
  exact ⟨q, cap, cur, rfl, l, (hk q (.inl rfl)).trans hg, r⟩
theorem Kd.Grow.later {D V : Type} {K : Kd D V} {T : TypeId} {X Y : World} {B : Nat} {v : Value} {ps : List (V × D)} {g : Nat → Nat → Prop} (h : K.Grow T X B v ps g) (hb : Below X.heap.size X Y) : K.Grow T Y B v ps g := h.keep hb.size (fun q hq => hb.block q (h.blocks hq).2)
theorem Kd.Grow.form {D V : Type} {K : Kd D V} {T : TypeId} {X : World} {B : Nat} {v : Value} {ps : List (V × D)} {g : Nat → Nat → Prop} (h : K.Grow T X B v ps g) : ∃ a cap, v = .slice a ps.length cap := by
  rcases h.row.2 with ⟨rfl, h0⟩ | ⟨q, cap, cur, rfl, _⟩
  · exact ⟨none, 0, by rw [h0]⟩
  · exact ⟨_, _, rfl⟩
theorem Kd.Grow.own {D V : Type} {K : Kd D V} {T : TypeId} {X : World} {B : Nat} {a : Option Addr} {m cap : Nat} {ps : List (V × D)} {g : Nat → Nat → Prop} (h : K.Grow T X B (.slice a m cap) ps g) {ds : List D} (hd : ps.map (·.2) = ds) : K.OwS X B a ds (Kd.blk (.slice a m cap) ps g) := by
  refine ⟨?_, fun q hq => h.blocks hq⟩
  by_cases e : ps = []
  · left; rw [← hd, e]; rfl
  have hpos : 0 < ps.length := List.length_pos_iff.2 e
  obtain ⟨b, cap', ev, hB, hlt⟩ := World.ownsRow.form h.row hpos
  have hl : ds.length = ps.length := by rw [← hd]; simp
  have hrow := h.row
  rw [ev] at hrow
  have ea : a = some ⟨b, 0, none⟩ := by injection ev
  have eb : (Value.slice a m cap).ownBlock = some b := by rw [ea]; rfl
  refine .inr ⟨b, g, ea, .inl eb, ⟨fun j hj => ?_, fun i d hi => ?_, fun i q hi hq e' => ?_, fun i j q hi hj => h.ap i j q (by omega) (by omega)⟩, fun i q hi hq => .inr ⟨i, by omega, hq⟩⟩
  · rw [hl] at hj
    have hx : j < (K.flat ps).length := by rw [K.flat_len]; exact hj
    exact ⟨_, by rw [World.ownsRow.cellAt hrow j hj]; exact List.getElem?_eq_getElem hx, World.ownsRow.frozenAt hrow j⟩
  · have hip : i < ps.length := by have := (List.getElem?_eq_some_iff.1 hi).1; omega
    have hp := List.getElem?_eq_getElem hip
    have hde : (ps[i]).2 = d := by
      rw [← hd, List.getElem?_map, hp] at hi
      simpa using hi
    refine ⟨(ps[i]).1, fun t u hu => ?_, by rw [← hde]; exact h.sub i _ hp⟩
    rw [← hde] at hu
    have ht : t < K.n := by have := (List.getElem?_eq_some_iff.1 hu).1; rwa [K.len] at this
    have hm : i * K.n + K.n ≤ ps.length * K.n := by rw [← Nat.succ_mul]; exact Nat.mul_le_mul_right _ hip
    rw [World.ownsRow.cellAt hrow _ (by omega), K.flat_at hp ht]
    exact hu
  · subst e'; exact h.ne i q (by omega) hq eb
theorem Kd.Grow.push {D V : Type} {K : Kd D V} {T ST : TypeId} {by_ : Nat} {P : Program} {i0 : TypeInfo} {z : Value} (ht : P.underlying ST = some (.slice T)) (hi : P.info? T = some i0) (hz : i0.zero = some z) (hs : i0.size = K.n) (hby : i0.bytes = by_) (hzs : z.cells.size = K.n) (hbb : by_ ≤ 1000) (hn0 : 0 < K.n)
    {W : World} {B e : Nat} {v : Value} {ps : List (V × D)} {g : Nat → Nat → Prop} (h : K.Grow T W B v ps g) (x : V) (d : D) (Q : Nat → Prop) (hm : ps.length ≤ 1100000) (ty : TypeId)
    (he : ∀ j u, (K.cells x d)[j]? = some u → W.cell? ⟨e, j, none⟩ = some u) (h1 : ∀ u ∈ K.cells x d, u.oneCell' = true) (ho : K.Ow W B x d Q) (hf : ∀ q, Q q → ¬ Kd.blk v ps g q) (hB : B ≤ W.heap.size) :
    ∃ v' W', (Builtin.append_ #[ST, ST] ty #[v, .slice (some ⟨e, 0, none⟩) 1 1]).run P W = .ok v' W' ∧ K.Grow T W' B v' (ps ++ [(x, d)]) (fun i => if i = ps.length then Q else g i) ∧ W.grownBy W' v.ownBlock ∧ (v'.ownBlock = v.ownBlock ∨ v'.ownBlock = some W.heap.size) := by
  have hadd : ∀ (b o j : Nat), (⟨b, o, none⟩ : Addr).add j = ⟨b, o + j, none⟩ := fun b o j => by unfold Addr.add; split <;> simp_all
  obtain ⟨v', W', hrun, hown, hg, hnil, hlies⟩ := run_append_own_at (P := P) W B ST ty T i0 z K.n by_ ht hi hz hs hby hzs hn0
    v ps.length _ h.row ⟨e, 0, none⟩ 1 1 (K.cells x d) (by rw [K.len]; omega) (fun j u hu => by rw [hadd, Nat.zero_add]; exact he j u hu) h1 (by unfold maxLen; omega) (by
      have : (ps.length + 1) * by_ ≤ 1100001 * 1000 := Nat.mul_le_mul (by omega) hbb
      omega) hB
  have far : ∀ q, q < W.heap.size → v.ownBlock ≠ some q → W'.heap[q]? = W.heap[q]? := fun q hq hne => hg.block q hq (fun e' => hne e'.symm)
  have nev : ∀ q, q < W.heap.size → v.ownBlock ≠ some q → v'.ownBlock ≠ some q := fun q hq hne => by
    rcases hlies with e' | e'
    · rw [e']; exact hne
    · rw [e']; intro e''; cases e''; omega
  have hlen : (ps ++ [(x, d)]).length = ps.length + 1 := by simp
  refine ⟨v', W', hrun, ⟨by rw [K.flat_snoc, hlen]; exact hown, fun i p e' => ?_, fun i q hi' hq => ?_, fun i j q hi' hj' hij h1 h2 => ?_⟩, hg, hlies⟩
  · by_cases hl : i < ps.length
    · rw [List.getElem?_append_left hl] at e'
      simp only [if_neg (show i ≠ ps.length by omega)]
      have hsub := h.sub i p e'
      exact K.keep hsub hg.size (fun q hq => far q (K.of hsub hq).2 (h.ne i q hl hq))
    · have hi2 : i = ps.length := by have := (List.getElem?_eq_some_iff.1 e').1; omega
      subst hi2
      rw [List.getElem?_append_right (Nat.le_refl _)] at e'
      simp at e'
      subst e'
      simp only [if_pos]
      exact K.keep ho hg.size (fun q hq => far q (K.of ho hq).2 (fun e'' => hf q hq (.inl e'')))
  · by_cases e1 : i = ps.length
    · simp only [if_pos e1] at hq
      exact nev q (K.of ho hq).2 (fun e'' => hf q hq (.inl e''))
    · simp only [if_neg e1] at hq
      have hi2 : i < ps.length := by omega
      exact nev q (h.blocks (.inr ⟨i, hi2, hq⟩)).2 (h.ne i q hi2 hq)
  · by_cases e1 : i = ps.length
    · by_cases e2 : j = ps.length
      · omega
      · simp only [if_pos e1] at h1; simp only [if_neg e2] at h2; exact hf q h1 (.inr ⟨j, by omega, h2⟩)
    · by_cases e2 : j = ps.length
      · simp only [if_neg e1] at h1; simp only [if_pos e2] at h2; exact hf q h2 (.inr ⟨i, by omega, h1⟩)
      · simp only [if_neg e1] at h1; simp only [if_neg e2] at h2; exact h.ap i j q (by omega) (by omega) hij h1 h2
theorem Kd.blk_push {D V : Type} {v v' : Value} {ps : List (V × D)} {p : V × D} {g : Nat → Nat → Prop} {Q : Nat → Prop} {S : Nat} (hl : v'.ownBlock = v.ownBlock ∨ v'.ownBlock = some S) {q : Nat} (h : Kd.blk v' (ps ++ [p]) (fun i => if i = ps.length then Q else g i) q) : Kd.blk v ps g q ∨ Q q ∨ q = S := by
  rcases h with h | ⟨i, hi, h⟩
  · rcases hl with e | e
    · rw [e] at h; exact .inl (.inl h)
    · rw [e] at h; exact .inr (.inr (Option.some.inj h).symm)
  · by_cases e : i = ps.length
    · simp only [if_pos e] at h; exact .inr (.inl h)
    · simp only [if_neg e] at h
      simp at hi
      exact .inl (.inr ⟨i, by omega, h⟩)
theorem OM.mono {w : World} {B B' : Nat} {v : MV} {m : M4} {PK PR PD : Nat → Prop} (h : OM w B v m PK PR PD) (hb : B' ≤ B) : OM w B' v m PK PR PD := ⟨h.k, h.r, h.n, h.kr, h.kd, h.rd, fun q hq => Nat.le_trans hb (h.kB q hq), fun q hq => Nat.le_trans hb (h.rB q hq), fun q hq => Nat.le_trans hb (h.dB q hq)⟩
theorem toM_any (w : World) (v : MV) (m : M4) (ht : MT m) (hs : SlM w v m) : Calls Tryz.prog 86 #[v.val m] w fun e w' =>
    ∃ (c4 : Option Addr) (k4 : Nat) (l4 : Option Addr) (j4 : Nat) (d4 : Option Addr) (i4 : Nat) (PK PR PD : Nat → Prop), e = .returned ((MV.mk c4 k4 l4 j4 d4 i4).val m) ∧ OM w' w.heap.size ⟨c4, k4, l4, j4, d4, i4⟩ m PK PR PD ∧ (∀ q, OfM PK PR PD q → q < w'.heap.size) ∧ Below w.heap.size w w' :=
  (toMachine_any w v m ht.k ht.ks ht.r ht.rs ht.n hs).mono (by
    rintro e w' ⟨⟨c4, k4, l4, j4, d4, i4⟩, B1, B2, B3, gk, gr, h1, h2, h3⟩
    have o1 := h2.o1; have o2 := h2.o2; have o3 := h2.o3; have o4 := h2.sz
    refine ⟨c4, k4, l4, j4, d4, i4, _, _, _, h1, h2.om.mono (by omega), fun q hq => ?_, h3⟩
    rcases hq with hq | hq | hq <;> omega)
theorem MT.ml {m : M4} (h : MT m) : ML m := ⟨by have := h.k; unfold maxLen; omega, fun c hc => by have := h.ks c hc; unfold maxLen; omega, by have := h.r; unfold maxLen; omega, fun c hc => by have := h.rs c hc; unfold maxLen; omega, by have := h.n; unfold maxLen; omega⟩
theorem bkept {A X Y : World} {P : Nat → Prop} (h : Below A.heap.size A X) (k : KeptP P X Y) (hp : ∀ q, P q → A.heap.size ≤ q) : Below A.heap.size A Y := h.trans (k.below hp h.size)
def KM.Ow (w : World) (B : Nat) (a : Option Addr) (b : Nat) (c : Option Addr) (d : Nat) (e : Option Addr) (f : Nat) (m : M4) (P : Nat → Prop) : Prop := ∃ PK PR PD, OM w B ⟨a, b, c, d, e, f⟩ m PK PR PD ∧ (∀ q, OfM PK PR PD q → P q) ∧ (∀ q, P q → B ≤ q ∧ q < w.heap.size)
theorem KM.Ow.of {w : World} {B : Nat} {a : Option Addr} {b : Nat} {c : Option Addr} {d : Nat} {e : Option Addr} {f : Nat} {m : M4} {P : Nat → Prop} (h : KM.Ow w B a b c d e f m P) {q : Nat} (hq : P q) : B ≤ q ∧ q < w.heap.size := by obtain ⟨_, _, _, _, _, h3⟩ := h; exact h3 q hq
theorem KM.Ow.sl {w : World} {B : Nat} {a : Option Addr} {b : Nat} {c : Option Addr} {d : Nat} {e : Option Addr} {f : Nat} {m : M4} {P : Nat → Prop} (h : KM.Ow w B a b c d e f m P) : SlM w ⟨a, b, c, d, e, f⟩ m := by obtain ⟨_, _, _, h1, _, _⟩ := h; exact h1.sl
theorem KM.Ow.keep {w w' : World} {B : Nat} {a : Option Addr} {b : Nat} {c : Option Addr} {d : Nat} {e : Option Addr} {f : Nat} {m : M4} {P : Nat → Prop} (h : KM.Ow w B a b c d e f m P) (hs : w.heap.size ≤ w'.heap.size) (hk : ∀ q, P q → w'.heap[q]? = w.heap[q]?) : KM.Ow w' B a b c d e f m P := by
  obtain ⟨PK, PR, PD, h1, h2, h3⟩ := h
  exact ⟨PK, PR, PD, h1.keep hs (fun q _ hq => hk q (h2 q hq)), h2, fun q hq => ⟨(h3 q hq).1, Nat.lt_of_lt_of_le (h3 q hq).2 hs⟩⟩
theorem KM.Ow.later {w w' : World} {B : Nat} {a : Option Addr} {b : Nat} {c : Option Addr} {d : Nat} {e : Option Addr} {f : Nat} {m : M4} {P : Nat → Prop} (h : KM.Ow w B a b c d e f m P) (hb : Below w.heap.size w w') : KM.Ow w' B a b c d e f m P := h.keep hb.size (fun q hq => hb.block q (h.of hq).2)
theorem KM.Ow.low {w : World} {B B' : Nat} {a : Option Addr} {b : Nat} {c : Option Addr} {d : Nat} {e : Option Addr} {f : Nat} {m : M4} {P : Nat → Prop} (h : KM.Ow w B a b c d e f m P) (hb : B' ≤ B) : KM.Ow w B' a b c d e f m P := by
  obtain ⟨PK, PR, PD, h1, h2, h3⟩ := h
  exact ⟨PK, PR, PD, h1.mono hb, h2, fun q hq => ⟨Nat.le_trans hb (h3 q hq).1, (h3 q hq).2⟩⟩
theorem KM.of {w : World} {B : Nat} {a : Option Addr} {b : Nat} {c : Option Addr} {d : Nat} {e : Option Addr} {f : Nat} {m : M4} {PK PR PD : Nat → Prop} (h : OM w B ⟨a, b, c, d, e, f⟩ m PK PR PD) (hl : ∀ q, OfM PK PR PD q → q < w.heap.size) : KM.Ow w B a b c d e f m (OfM PK PR PD) :=
  ⟨PK, PR, PD, h, fun _ hq => hq, fun q hq => ⟨by rcases hq with hq | hq | hq; exact h.kB q hq; exact h.rB q hq; exact h.dB q hq, hl q hq⟩⟩
theorem KM.to (X : World) (a : Option Addr) (b : Nat) (c : Option Addr) (d : Nat) (e : Option Addr) (f : Nat) (m : M4) (ht : MT m) (h : SlM X ⟨a, b, c, d, e, f⟩ m) : Calls Tryz.prog 86 #[.agg #[.bool m.alive, .slice a m.copies.length b, .slice c m.log.length d, .slice e m.cleared.length f]] X fun r w' =>
    ∃ (a : Option Addr) (b : Nat) (c : Option Addr) (d : Nat) (e : Option Addr) (f : Nat) (P : Nat → Prop), r = .returned (.agg #[.bool m.alive, .slice a m.copies.length b, .slice c m.log.length d, .slice e m.cleared.length f]) ∧ KM.Ow w' X.heap.size a b c d e f m P ∧ Below X.heap.size X w' := by
  have hh := toM_any X ⟨a, b, c, d, e, f⟩ m ht h
  simp only [MV.val] at hh
  refine hh.mono ?_
  rintro r w' ⟨a, b, c, d, e, f, PK, PR, PD, rfl, o, l, bl⟩
  exact ⟨a, b, c, d, e, f, _, rfl, KM.of o l, bl⟩
theorem KM.eq (X : World) (a : Option Addr) (b : Nat) (c : Option Addr) (d : Nat) (e : Option Addr) (f : Nat) (a' : Option Addr) (b' : Nat) (c' : Option Addr) (d' : Nat) (e' : Option Addr) (f' : Nat) (m : M4) (ht : MT m) (h1 : SlM X ⟨a, b, c, d, e, f⟩ m) (h2 : SlM X ⟨a', b', c', d', e', f'⟩ m) : Calls Tryz.prog 96 #[.agg #[.bool m.alive, .slice a m.copies.length b, .slice c m.log.length d, .slice e m.cleared.length f], .agg #[.bool m.alive, .slice a' m.copies.length b', .slice c' m.log.length d', .slice e' m.cleared.length f']] X fun r w' => r = .returned (.bool true) ∧ Below X.heap.size X w' := by
  have hh := eqMachine_same X ⟨a, b, c, d, e, f⟩ ⟨a', b', c', d', e', f'⟩ m ht.ml h1 h2
  simp only [MV.val] at hh
  exact hh
theorem KM.sz (X : World) (a : Option Addr) (b : Nat) (c : Option Addr) (d : Nat) (e : Option Addr) (f : Nat) (m : M4) (hl : ML m) (h : SlM X ⟨a, b, c, d, e, f⟩ m) : Calls Tryz.prog 76 #[.agg #[.bool m.alive, .slice a m.copies.length b, .slice c m.log.length d, .slice e m.cleared.length f], .int .i64 1048576] X fun r w' => r = .returned (.int .i64 (leftR 1048576 (szM m))) ∧ Below X.heap.size X w' := by
  have hh := szMachine_any X ⟨a, b, c, d, e, f⟩ m hl h
  simp only [MV.val] at hh
  exact hh
set_option maxHeartbeats 2000000 in
theorem szMachine_l (w : World) (v : MV) (m : M4) (l0 : Nat) (hl0 : l0 ≤ 1048576) (hl : ML m) (hs : SlM w v m) : Calls Tryz.prog 76 #[v.val m, .int .i64 (l0 : Int)] w fun e w' => e = .returned (.int .i64 (leftR l0 (szM m))) ∧ Below w.heap.size w w' := by
  obtain ⟨ac, cc, al, cl, ad, cd⟩ := v
  have H : Hid (SlM w ⟨ac, cc, al, cl, ad, cd⟩ m ∧ ML m) := ⟨hs, hl⟩
  clear hs hl
  simp only [MV.val]
  have HM : Hid (szM m = (m.copies.length + lensK m.copies) + (m.log.length + lensR m.log) + m.cleared.length) := rfl
  have b0 : Below w.heap.size w (w.alloc (.cells #[.bool m.alive, .slice ac m.copies.length cc, .slice al m.log.length cl, .slice ad m.cleared.length cd] 119)) := (Below.refl _ _).alloc (Nat.le_refl _) _
  have u2 : (w.alloc (.cells #[.bool m.alive, .slice ac m.copies.length cc, .slice al m.log.length cl, .slice ad m.cleared.length cd] 119)).cell? ⟨w.heap.size, 2, none⟩ = some (.slice al m.log.length cl) := by go_simp
  have u3 : (w.alloc (.cells #[.bool m.alive, .slice ac m.copies.length cc, .slice al m.log.length cl, .slice ad m.cleared.length cd] 119)).cell? ⟨w.heap.size, 3, none⟩ = some (.slice ad m.cleared.length cd) := by go_simp
  have sU : w.heap.size < (w.alloc (.cells #[.bool m.alive, .slice ac m.copies.length cc, .slice al m.log.length cl, .slice ad m.cleared.length cd] 119)).heap.size := by simp
  have hz1 : Calls Tryz.prog 132 #[.slice ac m.copies.length cc, .int .i64 (l0 : Int)] (w.alloc (.cells #[.bool m.alive, .slice ac m.copies.length cc, .slice al m.log.length cl, .slice ad m.cleared.length cd] 119)) fun e w' => e = .returned (.int .i64 (leftR l0 (m.copies.length + lensK m.copies))) ∧ Below (w.alloc (.cells #[.bool m.alive, .slice ac m.copies.length cc, .slice al m.log.length cl, .slice ad m.cleared.length cd] 119)).heap.size (w.alloc (.cells #[.bool m.alive, .slice ac m.copies.length cc, .slice al m.log.length cl, .slice ad m.cleared.length cd] 119)) w' := szCopyS_l (w.alloc (.cells #[.bool m.alive, .slice ac m.copies.length cc, .slice al m.log.length cl, .slice ad m.cleared.length cd] 119)) ac m.copies.length cc m.copies l0 H.out.2.k hl0 (H.out.1.later b0).k H.out.2.ks
  have hz2 := fun W l (h : Below w.heap.size w W) (hl : l ≤ 1048576) => szRecordS_l W al m.log.length cl m.log l H.out.2.r hl (H.out.1.later h).r H.out.2.rs
  have hz3 := fun W l (hl : l ≤ 1048576) => szInt64S_l W ad m.cleared.length cd l H.out.2.n hl
  obtain ⟨A, hA⟩ : ∃ A, m.copies.length + lensK m.copies = A := ⟨_, rfl⟩
  obtain ⟨Bn, hB⟩ : ∃ Bn, m.log.length + lensR m.log = Bn := ⟨_, rfl⟩
  obtain ⟨Cn, hC⟩ : ∃ Cn, m.cleared.length = Cn := ⟨_, rfl⟩
  rw [HM.out]
  simp only [hA, hB] at hz1 hz2 ⊢
  have HZ2 : Hid (∀ (W : World) (l : Nat), Below w.heap.size w W → l ≤ 1048576 → Calls Tryz.prog 133 #[.slice al m.log.length cl, .int .i64 (l : Int)] W fun e w' => e = .returned (.int .i64 (leftR l Bn)) ∧ Below W.heap.size W w') := hz2
  have HZ3 : Hid (∀ (W : World) (l : Nat), l ≤ 1048576 → Calls Tryz.prog 131 #[.slice ad m.cleared.length cd, .int .i64 (l : Int)] W fun e w' => e = .returned (.int .i64 (leftR l m.cleared.length)) ∧ w' = W) := hz3
  have SU : Hid (w.heap.size < (w.alloc (.cells #[.bool m.alive, .slice ac m.copies.length cc, .slice al m.log.length cl, .slice ad m.cleared.length cd] 119)).heap.size ∧ Below w.heap.size w (w.alloc (.cells #[.bool m.alive, .slice ac m.copies.length cc, .slice al m.log.length cl, .slice ad m.cleared.length cd] 119))) := ⟨sU, b0⟩
  clear hA hB hC hz2 hz3 sU b0 HM
  by_cases h1 : A ≤ l0
  · rw [leftR_yes h1] at hz1
    have g1 : decide (((l0 - A : Nat) : Int) < 0) = false := by simp
    go_enter Tryz.func76, Tryz.ntmps76
    go_wp2_with fail
    refine hz1.mono ?_
    clear hz1
    rintro e w1 ⟨rfl, b1⟩
    have c2 := (b1.cell (p := ⟨w.heap.size, 2, none⟩) SU.out.1).trans u2
    have c3 := (b1.cell (p := ⟨w.heap.size, 3, none⟩) SU.out.1).trans u3
    have B1 : Hid (Below w.heap.size w w1 ∧ w.heap.size < w1.heap.size) := ⟨SU.out.2.trans (b1.mono SU.out.2.size), Nat.lt_of_lt_of_le SU.out.1 b1.size⟩
    clear u2 u3 b1
    go_wp2_with fail
    have hz := HZ2.out w1 (l0 - A) B1.out.1 (by omega)
    by_cases h2 : Bn ≤ l0 - A
    · rw [leftR_yes h2] at hz
      have g2 : decide (((l0 - A - Bn : Nat) : Int) < 0) = false := by simp
      refine hz.mono ?_
      clear hz
      rintro e w2 ⟨rfl, b2⟩
      have x3 := (b2.cell (p := ⟨w.heap.size, 3, none⟩) B1.out.2).trans c3
      have B2 : Hid (Below w.heap.size w w2) := B1.out.1.trans (b2.mono B1.out.1.size)
      clear c2 c3 b2
      go_wp2_with fail
      have hz := HZ3.out w2 (l0 - A - Bn) (by omega)
      by_cases h3 : m.cleared.length ≤ l0 - A - Bn
      · rw [leftR_yes h3] at hz
        have g3 : decide (((l0 - A - Bn - m.cleared.length : Nat) : Int) < 0) = false := by simp
        refine hz.mono ?_
        clear hz
        rintro e w2 ⟨rfl, rfl⟩
        go_wp2
        go_ret
        exact ⟨by rw [leftR_yes (by omega), show l0 - (A + Bn + m.cleared.length) = l0 - A - Bn - m.cleared.length by omega]; rfl, B2.out⟩
      · rw [leftR_no h3] at hz
        refine hz.mono ?_
        clear hz
        rintro e w2 ⟨rfl, rfl⟩
        go_wp2
        go_ret
        exact ⟨by rw [leftR_no (by omega)]; rfl, B2.out⟩
    · rw [leftR_no h2] at hz
      refine hz.mono ?_
      clear hz
      rintro e w2 ⟨rfl, b2⟩
      have B2 : Hid (Below w.heap.size w w2) := B1.out.1.trans (b2.mono B1.out.1.size)
      clear b2
      go_wp2
      go_ret
      exact ⟨by rw [leftR_no (by omega)]; rfl, B2.out⟩
  · rw [leftR_no h1] at hz1
    go_enter Tryz.func76, Tryz.ntmps76
    go_wp2_with fail
    refine hz1.mono ?_
    clear hz1
    rintro e w1 ⟨rfl, b1⟩
    have B1 : Hid (Below w.heap.size w w1) := SU.out.2.trans (b1.mono SU.out.2.size)
    clear b1
    go_wp2
    go_ret
    exact ⟨by rw [leftR_no (by omega)]; rfl, B1.out⟩
theorem KM.szl (X : World) (a : Option Addr) (b : Nat) (c : Option Addr) (d : Nat) (e : Option Addr) (f : Nat) (m : M4) (l : Nat) (hl0 : l ≤ 1048576) (hl : ML m) (h : SlM X ⟨a, b, c, d, e, f⟩ m) : Calls Tryz.prog 76 #[.agg #[.bool m.alive, .slice a m.copies.length b, .slice c m.log.length d, .slice e m.cleared.length f], .int .i64 (l : Int)] X fun r w' => r = .returned (.int .i64 (leftR l (szM m))) ∧ Below X.heap.size X w' := by
  have hh := szMachine_l X ⟨a, b, c, d, e, f⟩ m l hl0 hl h
  simp only [MV.val] at hh
  exact hh
def KMk : Kd M4 MV where
  n := 4
  cells v m := [.bool m.alive, .slice v.ac m.copies.length v.cc, .slice v.al m.log.length v.cl, .slice v.ad m.cleared.length v.cd]
  len := fun _ _ => rfl
  Rd := SlM
  Ow w B v m P := KM.Ow w B v.ac v.cc v.al v.cl v.ad v.cd m P
  later := fun h b => h.later b
  sl := fun h => h.sl
  of := fun h hq => h.of hq
  keep := fun h hs hk => h.keep hs hk
  low := fun h hb => h.low hb
end Go.Proofs.YtnhjgomfkfehgaaGreatDoor
namespace Go.Proofs.YtnhjgomfkfehgaaGreatDoor
open Go.RowKit
open Go.Sort (grow)
theorem info_KMS : (Tryz.prog.info? 62).map (fun i => (i.zero, i.size, i.bytes)) = some (some (.agg #[.bool false, .slice none 0 0, .slice none 0 0, .slice none 0 0]), 4, 80) := by kernel_rfl
theorem make_KMS (n : Nat) (hn : n ≤ 1048576) (w : World) : (Instr.makeSlice 29 (.int .i64 (n : Int)) (.int .i64 (n : Int))).run Tryz.prog w = .ok (.slice (some ⟨w.heap.size, 0, none⟩) n n) (w.alloc (.cells (madeCells #[.bool false, .slice none 0 0, .slice none 0 0, .slice none 0 0] (n * 4)) 62)) := by
  obtain ⟨i, hi, hzz⟩ := Option.map_eq_some_iff.1 info_KMS
  simp only [Prod.mk.injEq] at hzz
  obtain ⟨hz, hs, hb⟩ := hzz
  have := run_make (P := Tryz.prog) w 29 62 i _ Tryz.underlying29 hi hz .i64 .i64 (n : Int) (n : Int) (by omega) (by omega) (by rw [hb]; omega) (by omega)
  rw [hs] at this
  simpa [Value.cells] using this
set_option maxRecDepth 100000 in
set_option maxHeartbeats 4000000 in
theorem KMS.to (w : World) (a : Option Addr) (cap : Nat) (xs : List M4) (hn : xs.length ≤ 1048576) (ht : ∀ d ∈ xs, MT d) (hs : KMk.RdS w a xs) : Calls Tryz.prog 36 #[.slice a xs.length cap] w fun e w' =>
    ∃ P, e = .returned (.slice (some ⟨w.heap.size, 0, none⟩) xs.length xs.length) ∧ KMk.OwS w' w.heap.size (some ⟨w.heap.size, 0, none⟩) xs P ∧ Below w.heap.size w w' := by
  have hmk := make_KMS xs.length hn
  go_enter Tryz.func36, Tryz.ntmps36
  go_wp2
  go_loopw [4] (fun i wr => ∃ (j : Nat) (g : Nat → Nat → Prop), j ≤ xs.length ∧ i = .int .i64 j ∧ Below w.heap.size w wr ∧ w.heap.size < wr.heap.size ∧ KMk.Part wr w.heap.size w.heap.size xs.length (xs.take j) g) (fun i _ => xs.length - (intOf i).toNat)
  case atStart => exact ⟨0, fun _ _ => False, Nat.zero_le _, rfl, (Below.refl _ _).alloc (Nat.le_refl _) _, by simp, by rw [List.take_zero]; exact Kd.Part.nil _ _ (room_made _ _ _ _)⟩
  case round =>
    obtain ⟨j, g, hj, rfl, hbl, hsz, hpt⟩ := hrel
    by_cases hlt : j < xs.length
    · obtain ⟨d, hd⟩ : ∃ d, xs[j]? = some d := ⟨_, List.getElem?_eq_getElem hlt⟩
      rcases hs with hs | ⟨b, off, rfl, hb, h1⟩
      · rw [hs] at hlt; simp at hlt
      obtain ⟨⟨c0, c1, c2, c3, c4, c5⟩, hat, hrd⟩ := h1 j d hd
      have e0 : wr.cell? ⟨b, off + j * 4, none⟩ = some (.bool d.alive) := (hbl.cell (p := ⟨b, off + j * 4, none⟩) hb).trans (hat 0 _ rfl)
      have e1 : wr.cell? ⟨b, off + j * 4 + 1, none⟩ = some (.slice c0 d.copies.length c1) := (hbl.cell (p := ⟨b, off + j * 4 + 1, none⟩) hb).trans (hat 1 _ rfl)
      have e2 : wr.cell? ⟨b, off + j * 4 + 2, none⟩ = some (.slice c2 d.log.length c3) := (hbl.cell (p := ⟨b, off + j * 4 + 2, none⟩) hb).trans (hat 2 _ rfl)
      have e3 : wr.cell? ⟨b, off + j * 4 + 3, none⟩ = some (.slice c4 d.cleared.length c5) := (hbl.cell (p := ⟨b, off + j * 4 + 3, none⟩) hb).trans (hat 3 _ rfl)
      have hcl := KM.to wr c0 c1 c2 c3 c4 c5 d (ht d (List.mem_of_getElem? hd)) (KMk.later hrd hbl)
      have KH : Hid (KMk.Part wr w.heap.size w.heap.size xs.length (xs.take j) g ∧ Below w.heap.size w wr ∧ w.heap.size < wr.heap.size ∧ xs.take (j + 1) = xs.take j ++ [d] ∧ (xs.take j).length = j) := ⟨hpt, hbl, hsz, by rw [List.take_add_one, hd]; rfl, by rw [List.length_take]; omega⟩
      have jn : (j : Int) < (xs.length : Int) := by omega
      clear hpt hbl hmk h1 ht hat hrd hd
      go_wp2_with fail
      refine hcl.mono ?_
      clear hcl e0 e1 e2 e3
      rintro e w1 ⟨u0, u1, u2, u3, u4, u5, P, rfl, ho, b1⟩
      have hp1 := KH.out.1.later b1 KH.out.2.2.1
      have hrm := hp1.rm
      have hjm : j * 4 + 4 ≤ xs.length * 4 := by omega
      obtain ⟨z0, d0, f0⟩ : ∃ v, w1.cell? ⟨w.heap.size, j * 4, none⟩ = some v ∧ w1.frozen? ⟨w.heap.size, j * 4, none⟩ = false := hrm (j * 4 + 0) (show _ < xs.length * 4 by omega)
      obtain ⟨z1, d1, f1⟩ : ∃ v, w1.cell? ⟨w.heap.size, j * 4 + 1, none⟩ = some v ∧ w1.frozen? ⟨w.heap.size, j * 4 + 1, none⟩ = false := hrm (j * 4 + 1) (show _ < xs.length * 4 by omega)
      obtain ⟨z2, d2, f2⟩ : ∃ v, w1.cell? ⟨w.heap.size, j * 4 + 2, none⟩ = some v ∧ w1.frozen? ⟨w.heap.size, j * 4 + 2, none⟩ = false := hrm (j * 4 + 2) (show _ < xs.length * 4 by omega)
      obtain ⟨z3, d3, f3⟩ : ∃ v, w1.cell? ⟨w.heap.size, j * 4 + 3, none⟩ = some v ∧ w1.frozen? ⟨w.heap.size, j * 4 + 3, none⟩ = false := hrm (j * 4 + 3) (show _ < xs.length * 4 by omega)
      have K1 : Hid (KMk.Part w1 w.heap.size w.heap.size xs.length (xs.take j) g ∧ KMk.Ow w1 wr.heap.size ⟨u0, u1, u2, u3, u4, u5⟩ d P ∧ Below wr.heap.size wr w1) := ⟨hp1, ho, b1⟩
      clear hp1 ho b1 hrm hjm
      go_wp2
      obtain ⟨k1, k2, k3, k4, k5⟩ := KH.out
      obtain ⟨p1, p2, p3⟩ := K1.out
      have hpu := p1.push (by omega) ⟨u0, u1, u2, u3, u4, u5⟩ d P (KMk.low p2 (Nat.le_of_lt k3)) (fun q hq => by have := (KMk.of p2 hq).1; omega) (fun i q hi hq hq' => by have := (k1.gq hi hq).2; have := (KMk.of p2 hq').1; omega)
      rw [k5, ← k4] at hpu
      have hbe : Below w.heap.size w (putB w1 w.heap.size (j * 4) [.bool d.alive, .slice u0 d.copies.length u1, .slice u2 d.log.length u3, .slice u4 d.cleared.length u5]) := putB_below (Nat.le_refl _) _ _ _ (k2.trans (p3.mono k2.size))
      have hsz' : w.heap.size < (putB w1 w.heap.size (j * 4) [.bool d.alive, .slice u0 d.copies.length u1, .slice u2 d.log.length u3, .slice u4 d.cleared.length u5]).heap.size := by rw [putB_size]; exact Nat.lt_of_lt_of_le k3 p3.size
      exact ⟨⟨j + 1, _, by omega, by simp, hbe, hsz', hpu⟩, by simp [intOf]; omega⟩
    · obtain rfl : j = xs.length := by omega
      have hd : decide ((xs.length : Int) < (xs.length : Int)) = false := by simp
      rw [List.take_length] at hpt
      have KH : Hid (KMk.Part wr w.heap.size w.heap.size xs.length xs g ∧ Below w.heap.size w wr ∧ w.heap.size < wr.heap.size) := ⟨hpt, hbl, hsz⟩
      clear hpt hbl hs hmk ht
      go_wp2
      go_ret
      exact ⟨_, rfl, KH.out.1.own (Nat.le_refl _) KH.out.2.2, KH.out.2.1⟩
set_option maxRecDepth 100000 in
set_option maxHeartbeats 4000000 in
theorem KMS.eq (w : World) (a a' : Option Addr) (cap cap' : Nat) (xs : List M4) (hn : xs.length ≤ 1048576) (ht : ∀ d ∈ xs, MT d) (h1 : KMk.RdS w a xs) (h2 : KMk.RdS w a' xs) : Calls Tryz.prog 42 #[.slice a xs.length cap, .slice a' xs.length cap'] w fun e w' => e = .returned (.bool true) ∧ Below w.heap.size w w' := by
  go_enter Tryz.func42, Tryz.ntmps42
  go_wp2
  go_loopw [5] (fun i wr => ∃ j : Nat, j ≤ xs.length ∧ i = .int .i64 j ∧ Below w.heap.size w wr) (fun i _ => xs.length - (intOf i).toNat)
  case atStart => exact ⟨0, Nat.zero_le _, rfl, Below.refl _ _⟩
  case round =>
    obtain ⟨j, hj, rfl, hbl⟩ := hrel
    by_cases hlt : j < xs.length
    · obtain ⟨d, hd⟩ : ∃ d, xs[j]? = some d := ⟨_, List.getElem?_eq_getElem hlt⟩
      rcases h1 with h1 | ⟨b, off, rfl, hb, h1⟩
      · rw [h1] at hlt; simp at hlt
      · rcases h2 with h2 | ⟨b', off', rfl, hb', h2⟩
        · rw [h2] at hlt; simp at hlt
        · obtain ⟨⟨c0, c1, c2, c3, c4, c5⟩, hat, hrd⟩ := h1 j d hd
          obtain ⟨⟨b0, b1, b2, b3, b4, b5⟩, hat', hrd'⟩ := h2 j d hd
          have x0 : ∀ dd os, (grow (redrawn wr dd) os).cell? ⟨b, off + j * 4, none⟩ = some (.bool d.alive) := fun dd os => ((below_regrown wr dd os).cell (p := ⟨b, off + j * 4, none⟩) (Nat.lt_of_lt_of_le hb hbl.size)).trans ((hbl.cell (p := ⟨b, off + j * 4, none⟩) hb).trans (hat 0 _ rfl))
          have x1 : ∀ dd os, (grow (redrawn wr dd) os).cell? ⟨b, off + j * 4 + 1, none⟩ = some (.slice c0 d.copies.length c1) := fun dd os => ((below_regrown wr dd os).cell (p := ⟨b, off + j * 4 + 1, none⟩) (Nat.lt_of_lt_of_le hb hbl.size)).trans ((hbl.cell (p := ⟨b, off + j * 4 + 1, none⟩) hb).trans (hat 1 _ rfl))
          have x2 : ∀ dd os, (grow (redrawn wr dd) os).cell? ⟨b, off + j * 4 + 2, none⟩ = some (.slice c2 d.log.length c3) := fun dd os => ((below_regrown wr dd os).cell (p := ⟨b, off + j * 4 + 2, none⟩) (Nat.lt_of_lt_of_le hb hbl.size)).trans ((hbl.cell (p := ⟨b, off + j * 4 + 2, none⟩) hb).trans (hat 2 _ rfl))
          have x3 : ∀ dd os, (grow (redrawn wr dd) os).cell? ⟨b, off + j * 4 + 3, none⟩ = some (.slice c4 d.cleared.length c5) := fun dd os => ((below_regrown wr dd os).cell (p := ⟨b, off + j * 4 + 3, none⟩) (Nat.lt_of_lt_of_le hb hbl.size)).trans ((hbl.cell (p := ⟨b, off + j * 4 + 3, none⟩) hb).trans (hat 3 _ rfl))
          have y0 : ∀ dd os, (grow (redrawn wr dd) os).cell? ⟨b', off' + j * 4, none⟩ = some (.bool d.alive) := fun dd os => ((below_regrown wr dd os).cell (p := ⟨b', off' + j * 4, none⟩) (Nat.lt_of_lt_of_le hb' hbl.size)).trans ((hbl.cell (p := ⟨b', off' + j * 4, none⟩) hb').trans (hat' 0 _ rfl))
          have y1 : ∀ dd os, (grow (redrawn wr dd) os).cell? ⟨b', off' + j * 4 + 1, none⟩ = some (.slice b0 d.copies.length b1) := fun dd os => ((below_regrown wr dd os).cell (p := ⟨b', off' + j * 4 + 1, none⟩) (Nat.lt_of_lt_of_le hb' hbl.size)).trans ((hbl.cell (p := ⟨b', off' + j * 4 + 1, none⟩) hb').trans (hat' 1 _ rfl))
          have y2 : ∀ dd os, (grow (redrawn wr dd) os).cell? ⟨b', off' + j * 4 + 2, none⟩ = some (.slice b2 d.log.length b3) := fun dd os => ((below_regrown wr dd os).cell (p := ⟨b', off' + j * 4 + 2, none⟩) (Nat.lt_of_lt_of_le hb' hbl.size)).trans ((hbl.cell (p := ⟨b', off' + j * 4 + 2, none⟩) hb').trans (hat' 2 _ rfl))
          have y3 : ∀ dd os, (grow (redrawn wr dd) os).cell? ⟨b', off' + j * 4 + 3, none⟩ = some (.slice b4 d.cleared.length b5) := fun dd os => ((below_regrown wr dd os).cell (p := ⟨b', off' + j * 4 + 3, none⟩) (Nat.lt_of_lt_of_le hb' hbl.size)).trans ((hbl.cell (p := ⟨b', off' + j * 4 + 3, none⟩) hb').trans (hat' 3 _ rfl))
          have cQ : ∀ dd os, Calls Tryz.prog 96 #[.agg #[.bool d.alive, .slice c0 d.copies.length c1, .slice c2 d.log.length c3, .slice c4 d.cleared.length c5], .agg #[.bool d.alive, .slice b0 d.copies.length b1, .slice b2 d.log.length b3, .slice b4 d.cleared.length b5]] (grow (redrawn wr dd) os) fun e w'' => e = .returned (.bool true) ∧ ∃ p : Regrown, w'' = grow (redrawn wr p.d) p.os := fun dd os => Calls.regrown_of (KM.eq _ c0 c1 c2 c3 c4 c5 b0 b1 b2 b3 b4 b5 d (ht d (List.mem_of_getElem? hd)) (KMk.later hrd (hbl.trans ((below_regrown wr dd os).mono hbl.size))) (KMk.later hrd' (hbl.trans ((below_regrown wr dd os).mono hbl.size))))
          have K : Hid (Below w.heap.size w wr) := hbl
          have jn : (j : Int) < (xs.length : Int) := by omega
          clear hat hat' hrd hrd' hbl h1 h2 ht hd
          go_wp2_with fail
          refine wp_region_quiet_below (by kernel_rfl) (by kernel_rfl) ?_
          repeat (go_big_quiet_step (exact cQ _ _))
          refine wpQuiet_nil ?_
          intro _ hw'
          obtain ⟨⟨dq, osq⟩, hw''⟩ := hw'
          subst hw''
          have bq := below_regrown wr dq osq
          go_wp2
          exact ⟨⟨j + 1, by omega, by simp, K.out.trans (bq.mono K.out.size)⟩, by simp [intOf]; omega⟩
    · obtain rfl : j = xs.length := by omega
      have hd : decide ((xs.length : Int) < (xs.length : Int)) = false := by simp
      clear h1 h2 ht
      go_wp2
      go_ret
      exact ⟨rfl, hbl⟩
def KMS.szs (xs : List M4) : Nat := (xs.map fun d => szM d).sum
set_option maxRecDepth 100000 in
set_option maxHeartbeats 4000000 in
theorem KMS.sz (w : World) (a : Option Addr) (cap : Nat) (xs : List M4) (l : Nat) (hl0 : l ≤ 1048576) (hn : xs.length ≤ maxLen) (hl : ∀ d ∈ xs, ML d) (hs : KMk.RdS w a xs) :
    Calls Tryz.prog 27 #[.slice a xs.length cap, .int .i64 (l : Int)] w fun e w' => e = .returned (.int .i64 (leftR l (xs.length + KMS.szs xs))) ∧ Below w.heap.size w w' := by
  have hn' := hn
  unfold maxLen at hn'
  by_cases h0 : xs.length ≤ l
  · have d0 : decide ((l : Int) - (xs.length : Int) < 0) = false := by simp; omega
    go_enter Tryz.func27, Tryz.ntmps27
    go_wp2
    go_loopw [1, 5] (fun v1 v5 wr => ∃ j : Nat, j ≤ xs.length ∧ v5 = .int .i64 j ∧ xs.length + KMS.szs (xs.take j) ≤ l ∧ v1 = .int .i64 ((l - (xs.length + KMS.szs (xs.take j)) : Nat) : Int) ∧ Below w.heap.size w wr) (fun _ v5 _ => xs.length - (intOf v5).toNat)
    case atStart => exact ⟨0, Nat.zero_le _, rfl, by simpa [KMS.szs] using h0, by simp [KMS.szs]; try omega, Below.refl _ _⟩
    case round =>
      obtain ⟨j, hj, rfl, hle, rfl, hbl⟩ := hrel
      have KL : Hid (xs.length + KMS.szs (xs.take j) ≤ l) := hle
      by_cases hlt : j < xs.length
      · obtain ⟨d, hd⟩ : ∃ d, xs[j]? = some d := ⟨_, List.getElem?_eq_getElem hlt⟩
        rcases hs with hs | ⟨b, off, rfl, hb, h1⟩
        · rw [hs] at hlt; simp at hlt
        obtain ⟨⟨c0, c1, c2, c3, c4, c5⟩, hat, hrd⟩ := h1 j d hd
        have e0 : wr.cell? ⟨b, off + j * 4, none⟩ = some (.bool d.alive) := (hbl.cell (p := ⟨b, off + j * 4, none⟩) hb).trans (hat 0 _ rfl)
        have e1 : wr.cell? ⟨b, off + j * 4 + 1, none⟩ = some (.slice c0 d.copies.length c1) := (hbl.cell (p := ⟨b, off + j * 4 + 1, none⟩) hb).trans (hat 1 _ rfl)
        have e2 : wr.cell? ⟨b, off + j * 4 + 2, none⟩ = some (.slice c2 d.log.length c3) := (hbl.cell (p := ⟨b, off + j * 4 + 2, none⟩) hb).trans (hat 2 _ rfl)
        have e3 : wr.cell? ⟨b, off + j * 4 + 3, none⟩ = some (.slice c4 d.cleared.length c5) := (hbl.cell (p := ⟨b, off + j * 4 + 3, none⟩) hb).trans (hat 3 _ rfl)
        have hz := KM.szl wr c0 c1 c2 c3 c4 c5 d (l - (xs.length + KMS.szs (xs.take j))) (by omega) (hl d (List.mem_of_getElem? hd)) (KMk.later hrd hbl)
        have HST : Hid (KMS.szs (xs.take (j + 1)) = KMS.szs (xs.take j) + szM d) := by
          unfold Hid KMS.szs
          rw [List.map_take, List.map_take]
          exact sum_take_succ (by rw [List.getElem?_map, hd]; rfl)
        have HLE : Hid (KMS.szs (xs.take (j + 1)) ≤ KMS.szs xs) := by unfold Hid KMS.szs; rw [List.map_take]; exact sum_take_le _ _
        have KB : Hid (Below w.heap.size w wr) := hbl
        have jn : (j : Int) < (xs.length : Int) := by omega
        generalize hLL : KMS.szs (xs.take j) = LL at *
        generalize szM d = m at *
        clear h1 hbl hl hle hat hrd hd
        by_cases hfit : m ≤ l - (xs.length + LL)
        · rw [leftR_yes hfit] at hz
          have d1 : decide (((l - (xs.length + LL) - m : Nat) : Int) < 0) = false := by simp
          go_wp2_with fail
          refine hz.mono ?_
          clear hz
          rintro e w1 ⟨rfl, b1⟩
          go_wp2
          have h1 := KL.out
          refine ⟨⟨j + 1, by omega, by simp, by rw [HST.out]; omega, by rw [HST.out]; congr 2; omega, KB.out.trans (b1.mono KB.out.size)⟩, by simp [intOf]; omega⟩
        · rw [leftR_no hfit] at hz
          go_wp2_with fail
          refine hz.mono ?_
          clear hz
          rintro e w1 ⟨rfl, b1⟩
          go_wp2
          go_ret
          have h2 := HST.out
          have h3 := HLE.out
          refine ⟨by rw [leftR_no (by omega)]; rfl, KB.out.trans (b1.mono KB.out.size)⟩
      · obtain rfl : j = xs.length := by omega
        have hd : decide ((xs.length : Int) < (xs.length : Int)) = false := by simp
        rw [List.take_length] at hle ⊢
        clear hs hl KL
        go_wp2
        go_ret
        exact ⟨by rw [leftR_yes hle]; rfl, hbl⟩
  · have d0 : decide ((l : Int) - (xs.length : Int) < 0) = true := by simp; omega
    go_enter Tryz.func27, Tryz.ntmps27
    go_wp2
    go_ret
    exact ⟨by rw [leftR_no (by omega)]; rfl, Below.refl _ _⟩
end Go.Proofs.YtnhjgomfkfehgaaGreatDoor
namespace Go.Proofs.YtnhjgomfkfehgaaGreatDoor.tx
open Go.RowKit
open Go.Sort (grow)
theorem hidOf {p : Prop} (h : p) : Hid p := h
def leftR (l t : Nat) : Int := if t ≤ l then ((l - t : Nat) : Int) else -1
theorem leftR_yes {l t : Nat} (h : t ≤ l) : leftR l t = ((l - t : Nat) : Int) := if_pos h
theorem leftR_no {l t : Nat} (h : ¬ t ≤ l) : leftR l t = -1 := if_neg h
structure KeptP (P : Nat → Prop) (w w' : World) : Prop where
  os : w'.os = w.os
  tape : w'.tape = w.tape
  output : w'.output = w.output
  size : w.heap.size ≤ w'.heap.size
  block : ∀ q, q < w.heap.size → ¬ P q → w'.heap[q]? = w.heap[q]?
theorem KeptP.refl (P : Nat → Prop) (w : World) : KeptP P w w := ⟨rfl, rfl, rfl, Nat.le_refl _, fun _ _ _ => rfl⟩
theorem KeptP.trans {P : Nat → Prop} {a b c : World} (h : KeptP P a b) (k : KeptP P b c) : KeptP P a c :=
  ⟨k.os.trans h.os, k.tape.trans h.tape, k.output.trans h.output, Nat.le_trans h.size k.size, fun q hq hp => (k.block q (Nat.lt_of_lt_of_le hq h.size) hp).trans (h.block q hq hp)⟩
theorem KeptP.mono {P Q : Nat → Prop} {a b : World} (h : KeptP P a b) (hp : ∀ q, P q → Q q) : KeptP Q a b := ⟨h.os, h.tape, h.output, h.size, fun q hq hn => h.block q hq (fun e => hn (hp q e))⟩
theorem KeptP.of_only {P : Nat → Prop} {c : Nat} {a b : World} (h : OnlyBlock c a b) (hc : P c) : KeptP P a b := ⟨h.os, h.tape, h.output, Nat.le_of_eq h.size.symm, fun q _ hn => h.block q (fun e => hn (e ▸ hc))⟩
theorem KeptP.of_below {P : Nat → Prop} {a b : World} (h : Below a.heap.size a b) : KeptP P a b := ⟨h.os, h.tape, h.output, h.size, fun q hq _ => h.block q hq⟩
theorem KeptP.of_set {P : Nat → Prop} (w : World) {c o : Nat} (v : Value) (hc : P c) : KeptP P w (w.setCell ⟨c, o, none⟩ v) := .of_only ((OnlyBlock.refl c w).setCell o v) hc
theorem KeptP.below {P : Nat → Prop} {B : Nat} {a b : World} (h : KeptP P a b) (hp : ∀ q, P q → B ≤ q) (hB : B ≤ a.heap.size) : Below B a b := ⟨h.os, h.tape, h.output, h.size, fun q hq => h.block q (by omega) (fun e => by have := hp q e; omega)⟩
structure SetAt (w : World) (b o : Nat) (s : S5) : Prop where
  c0 : w.cell? ⟨b, o, none⟩ = some (.int .i64 s.region)
  c1 : w.cell? ⟨b, o + 1, none⟩ = some (.int .i64 s.slot)
  c2 : w.cell? ⟨b, o + 2, none⟩ = some (.int .i64 s.value)
  c3 : w.cell? ⟨b, o + 3, none⟩ = some (.bool s.used)
  c4 : w.cell? ⟨b, o + 4, none⟩ = some (.int .i64 s.version)
theorem SetAt.below {w w' : World} {B b o : Nat} {s : S5} (h : SetAt w b o s) (hb : Below B w w') (hB : b < B) : SetAt w' b o s :=
  ⟨by rw [hb.cell hB]; exact h.c0, by rw [hb.cell hB]; exact h.c1, by rw [hb.cell hB]; exact h.c2, by rw [hb.cell hB]; exact h.c3, by rw [hb.cell hB]; exact h.c4⟩
def SetsAt (w : World) (b off : Nat) (xs : List S5) : Prop := ∀ i s, xs[i]? = some s → SetAt w b (off + i * 5) s
theorem SetsAt.below {w w' : World} {B b off : Nat} {xs : List S5} (h : SetsAt w b off xs) (hb : Below B w w') (hB : b < B) : SetsAt w' b off xs := fun i s e => (h i s e).below hb hB
def Sl (w : World) (B : Nat) (a : Option Addr) (n : Nat) (xs : List S5) : Prop := xs.length = n ∧ (n = 0 ∨ ∃ b off, a = some ⟨b, off, none⟩ ∧ b < B ∧ SetsAt w b off xs)
theorem Sl.below {w w' : World} {B : Nat} {a : Option Addr} {n : Nat} {xs : List S5} (h : Sl w B a n xs) (hb : Below B w w') : Sl w' B a n xs := by
  obtain ⟨h1, h2⟩ := h
  refine ⟨h1, ?_⟩
  rcases h2 with h2 | ⟨b, off, ha, hB, hx⟩
  · exact .inl h2
  · exact .inr ⟨b, off, ha, hB, hx.below hb hB⟩
theorem Sl.mono {w : World} {B B' : Nat} {a : Option Addr} {n : Nat} {xs : List S5} (h : Sl w B a n xs) (hB : B ≤ B') : Sl w B' a n xs := by
  obtain ⟨h1, h2⟩ := h
  refine ⟨h1, ?_⟩
  rcases h2 with h2 | ⟨b, off, ha, hb, hx⟩
  · exact .inl h2
  · exact .inr ⟨b, off, ha, by omega, hx⟩
theorem SetsAt.far {w : World} {b off : Nat} {xs : List S5} (h : SetsAt w b off xs) {p : Addr} (hp : p.block ≠ b) (v : Value) : SetsAt (w.setCell p v) b off xs := fun i s e =>
  ⟨by rw [cell_set_far hp]; exact (h i s e).c0, by rw [cell_set_far hp]; exact (h i s e).c1, by rw [cell_set_far hp]; exact (h i s e).c2, by rw [cell_set_far hp]; exact (h i s e).c3, by rw [cell_set_far hp]; exact (h i s e).c4⟩
theorem SetAt.set {w : World} {b o p : Nat} {s : S5} (h : SetAt w b o s) (hp : p < o ∨ o + 5 ≤ p) (v : Value) : SetAt (w.setCell ⟨b, p, none⟩ v) b o s :=
  ⟨by rw [cell_set_other (by omega)]; exact h.c0, by rw [cell_set_other (by omega)]; exact h.c1, by rw [cell_set_other (by omega)]; exact h.c2, by rw [cell_set_other (by omega)]; exact h.c3, by rw [cell_set_other (by omega)]; exact h.c4⟩
theorem info_set : (Tryz.prog.info? 109).map (fun i => (i.zero, i.size, i.bytes)) = some (some (.agg #[.int .i64 0, .int .i64 0, .int .i64 0, .bool false, .int .i64 0]), 5, 40) := by kernel_rfl
theorem make_sets (n : Nat) (hn : n ≤ 1048576) (w : World) : (Instr.makeSlice 54 (.int .i64 (n : Int)) (.int .i64 (n : Int))).run Tryz.prog w = .ok (.slice (some ⟨w.heap.size, 0, none⟩) n n) (w.alloc (.cells (madeCells #[.int .i64 0, .int .i64 0, .int .i64 0, .bool false, .int .i64 0] (n * 5)) 109)) := by
  obtain ⟨i, hi, hzz⟩ := Option.map_eq_some_iff.1 info_set
  simp only [Prod.mk.injEq] at hzz
  obtain ⟨hz, hs, hb⟩ := hzz
  have := run_make (P := Tryz.prog) w 54 109 i _ Tryz.underlying54 hi hz .i64 .i64 (n : Int) (n : Int) (by omega) (by omega) (by rw [hb]; omega) (by omega)
  rw [hs] at this
  simpa [Value.cells] using this
theorem SetAt.put {w : World} {b o : Nat} {v0 v1 v2 v3 v4 : Value} (s : S5) (h0 : w.cell? ⟨b, o, none⟩ = some v0) (h1 : w.cell? ⟨b, o + 1, none⟩ = some v1) (h2 : w.cell? ⟨b, o + 2, none⟩ = some v2) (h3 : w.cell? ⟨b, o + 3, none⟩ = some v3) (h4 : w.cell? ⟨b, o + 4, none⟩ = some v4) :
    SetAt (((((w.setCell ⟨b, o, none⟩ (.int .i64 s.region)).setCell ⟨b, o + 1, none⟩ (.int .i64 s.slot)).setCell ⟨b, o + 2, none⟩ (.int .i64 s.value)).setCell ⟨b, o + 3, none⟩ (.bool s.used)).setCell ⟨b, o + 4, none⟩ (.int .i64 s.version)) b o s := by
  refine ⟨?_, ?_, ?_, ?_, ?_⟩
  · rw [cell_set_other (by omega), cell_set_other (by omega), cell_set_other (by omega), cell_set_other (by omega)]; exact cell_set_same h0
  · rw [cell_set_other (by omega), cell_set_other (by omega), cell_set_other (by omega)]; exact cell_set_same (by rw [cell_set_other (by omega)]; exact h1)
  · rw [cell_set_other (by omega), cell_set_other (by omega)]; exact cell_set_same (by rw [cell_set_other (by omega), cell_set_other (by omega)]; exact h2)
  · rw [cell_set_other (by omega)]; exact cell_set_same (by rw [cell_set_other (by omega), cell_set_other (by omega), cell_set_other (by omega)]; exact h3)
  · exact cell_set_same (by rw [cell_set_other (by omega), cell_set_other (by omega), cell_set_other (by omega), cell_set_other (by omega)]; exact h4)
theorem SetsAt.put {w : World} {b k : Nat} {xs : List S5} {s : S5} (h : SetsAt w b 0 (xs.take k)) (hs : xs[k]? = some s) {m : Nat} (hr : Room w b m) (hm : k * 5 + 5 ≤ m) :
    SetsAt (((((w.setCell ⟨b, k * 5, none⟩ (.int .i64 s.region)).setCell ⟨b, k * 5 + 1, none⟩ (.int .i64 s.slot)).setCell ⟨b, k * 5 + 2, none⟩ (.int .i64 s.value)).setCell ⟨b, k * 5 + 3, none⟩ (.bool s.used)).setCell ⟨b, k * 5 + 4, none⟩ (.int .i64 s.version)) b 0 (xs.take (k + 1)) := by
  intro i t e
  rw [List.getElem?_take] at e
  split at e
  · rename_i hi
    by_cases hik : i = k
    · subst hik
      rw [hs] at e
      obtain rfl := Option.some.inj e
      obtain ⟨v0, d0, _⟩ := hr (i * 5) (by omega)
      obtain ⟨v1, d1, _⟩ := hr (i * 5 + 1) (by omega)
      obtain ⟨v2, d2, _⟩ := hr (i * 5 + 2) (by omega)
      obtain ⟨v3, d3, _⟩ := hr (i * 5 + 3) (by omega)
      obtain ⟨v4, d4, _⟩ := hr (i * 5 + 4) (by omega)
      simpa using SetAt.put s d0 d1 d2 d3 d4
    · have := h i t (by rw [List.getElem?_take, if_pos (by omega)]; exact e)
      exact ((((this.set (by omega) _).set (by omega) _).set (by omega) _).set (by omega) _).set (by omega) _
  · cases e
theorem SetsAt.of_block {w w' : World} {b off : Nat} {xs : List S5} (h : SetsAt w b off xs) (e : w'.heap[b]? = w.heap[b]?) : SetsAt w' b off xs := fun i s hs => by
  obtain ⟨c0, c1, c2, c3, c4⟩ := h i s hs
  exact ⟨(World.cell?_of_block (a := ⟨b, _, none⟩) e).trans c0, (World.cell?_of_block (a := ⟨b, _, none⟩) e).trans c1, (World.cell?_of_block (a := ⟨b, _, none⟩) e).trans c2, (World.cell?_of_block (a := ⟨b, _, none⟩) e).trans c3, (World.cell?_of_block (a := ⟨b, _, none⟩) e).trans c4⟩
theorem toSetS_none (w : World) (a : Option Addr) (cap : Nat) : Calls Tryz.prog 145 #[.slice a 0 cap] w fun e w' =>
    e = .returned (.slice (some ⟨w.heap.size, 0, none⟩) 0 0) ∧ Below w.heap.size w w' ∧ w.heap.size < w'.heap.size := by
  have hmk : ∀ w : World, (Instr.makeSlice 54 (.int .i64 0) (.int .i64 0)).run Tryz.prog w = .ok (.slice (some ⟨w.heap.size, 0, none⟩) 0 0) (w.alloc (.cells (madeCells #[.int .i64 0, .int .i64 0, .int .i64 0, .bool false, .int .i64 0] 0) 109)) := fun w => by simpa using make_sets 0 (by omega) w
  go_enter Tryz.func145, Tryz.ntmps145
  go_wp2
  go_loopw [4] (fun i wr => i = .int .i64 0 ∧ Below w.heap.size w wr ∧ w.heap.size < wr.heap.size) (fun _ _ => 0)
  case atStart => exact ⟨rfl, (Below.refl _ _).alloc (Nat.le_refl _) _, by simp⟩
  case round =>
    obtain ⟨rfl, hbl, hsz⟩ := hrel
    go_wp2
    go_ret
    exact ⟨rfl, hbl, hsz⟩
set_option maxHeartbeats 1000000 in
theorem toSetS_someR (w : World) (b off n cap : Nat) (xs : List S5) (hx : xs.length = n) (hn : n ≤ 1048576) (hb : b < w.heap.size) (hs : SetsAt w b off xs) : Calls Tryz.prog 145 #[.slice (some ⟨b, off, none⟩) n cap] w fun e w' =>
    e = .returned (.slice (some ⟨w.heap.size, 0, none⟩) n n) ∧ Below w.heap.size w w' ∧ w.heap.size < w'.heap.size ∧ SetsAt w' w.heap.size 0 xs ∧ Room w' w.heap.size (n * 5) := by
  have hmk := make_sets n hn
  go_enter Tryz.func145, Tryz.ntmps145
  go_wp2
  go_loopw [4] (fun i wr => ∃ k : Nat, k ≤ n ∧ i = .int .i64 k ∧ Below w.heap.size w wr ∧ w.heap.size < wr.heap.size ∧ Room wr w.heap.size (n * 5) ∧ SetsAt wr w.heap.size 0 (xs.take k))
     (fun i _ => n - (intOf i).toNat)
  case atStart => exact ⟨0, Nat.zero_le _, rfl, (Below.refl _ _).alloc (Nat.le_refl _) _, by simp, room_made _ _ _ _, fun i s e => by simp at e⟩
  case round =>
    obtain ⟨k, hk, rfl, hbl, hsz, hro, hdo⟩ := hrel
    by_cases hlt : k < n
    · have hs' := hs.below hbl hb
      obtain ⟨s, hsk⟩ : ∃ s, xs[k]? = some s := ⟨xs[k]'(by omega), by simp⟩
      obtain ⟨c0, c1, c2, c3, c4⟩ := hs' k s hsk
      clear hs' hmk
      have K : Hid (Room wr w.heap.size (n * 5) ∧ SetsAt wr w.heap.size 0 (xs.take k) ∧ xs[k]? = some s ∧ Below w.heap.size w wr) := ⟨hro, hdo, hsk, hbl⟩
      clear hro hdo hsk hbl
      go_wp2_with fail
      refine (toSet_any _ s).mono ?_
      rintro e w1 ⟨rfl, b1⟩
      obtain ⟨hro, hdo, hsk, hbl⟩ := K.out
      have hro1 := hro.below b1 hsz
      have hdo1 := hdo.below b1 hsz
      obtain ⟨v0, d0, f0⟩ := hro1 (k * 5) (by omega)
      obtain ⟨v1, d1, f1⟩ := hro1 (k * 5 + 1) (by omega)
      obtain ⟨v2, d2, f2⟩ := hro1 (k * 5 + 2) (by omega)
      obtain ⟨v3, d3, f3⟩ := hro1 (k * 5 + 3) (by omega)
      obtain ⟨v4, d4, f4⟩ := hro1 (k * 5 + 4) (by omega)
      clear hro hdo hsk hbl
      have K2 : Hid (Room w1 w.heap.size (n * 5) ∧ SetsAt w1 w.heap.size 0 (xs.take k)) := ⟨hro1, hdo1⟩
      clear hro1 hdo1
      go_wp2
      obtain ⟨hro, hdo, hsk, hbl⟩ := K.out
      obtain ⟨hro1, hdo1⟩ := K2.out
      have hbl1 := hbl.trans (b1.mono (Nat.le_of_lt hsz))
      refine ⟨⟨k + 1, by omega, by simp, ((((hbl1.setCell (p := ⟨w.heap.size, k * 5, none⟩) (Nat.le_refl _) _).setCell (p := ⟨w.heap.size, k * 5 + 1, none⟩) (Nat.le_refl _) _).setCell (p := ⟨w.heap.size, k * 5 + 2, none⟩) (Nat.le_refl _) _).setCell (p := ⟨w.heap.size, k * 5 + 3, none⟩) (Nat.le_refl _) _).setCell (p := ⟨w.heap.size, k * 5 + 4, none⟩) (Nat.le_refl _) _,
        by have := b1.size; simp [World.setCell]; omega, ((((hro1.set _).set _).set _).set _).set _, hdo1.put hsk hro1 (by omega)⟩, by simp [intOf]; omega⟩
    · have : k = n := by omega
      subst this
      have hd : decide (k < k) = false := by simp
      go_wp2
      go_ret
      refine ⟨rfl, hbl, hsz, ?_, hro⟩
      rw [← hx, List.take_length] at hdo
      exact hdo
theorem toSetS_anyR (w : World) (a : Option Addr) (n cap : Nat) (xs : List S5) (hn : n ≤ 1048576) (hs : Sl w w.heap.size a n xs) : Calls Tryz.prog 145 #[.slice a n cap] w fun e w' =>
    e = .returned (.slice (some ⟨w.heap.size, 0, none⟩) n n) ∧ Below w.heap.size w w' ∧ w.heap.size < w'.heap.size ∧ SetsAt w' w.heap.size 0 xs ∧ Room w' w.heap.size (n * 5) := by
  obtain ⟨h1, h2⟩ := hs
  rcases h2 with rfl | ⟨b, off, rfl, hb, hx⟩
  · refine (toSetS_none w a cap).mono ?_
    rintro e w' ⟨rfl, h, h'⟩
    exact ⟨rfl, h, h', (fun i s e => by rw [List.eq_nil_of_length_eq_zero h1] at e; simp at e), fun j hj => by omega⟩
  · exact toSetS_someR w b off n cap xs h1 hn hb hx
theorem szSetS_l (w : World) (a : Option Addr) (n cap : Nat) (l : Nat) (hn : n ≤ maxLen) (hl : l ≤ 1048576) : Calls Tryz.prog 135 #[.slice a n cap, .int .i64 (l : Int)] w fun e w' => e = .returned (.int .i64 (leftR l n)) ∧ w' = w := by
  unfold maxLen at hn
  by_cases h : n ≤ l
  · rw [leftR_yes h]
    have d0 : decide ((l : Int) - (n : Int) < 0) = false := by simp; omega
    go_enter Tryz.func135, Tryz.ntmps135
    go_wp2
    go_ret
    have e : ((l - n : Nat) : Int) = (l : Int) - (n : Int) := by omega
    exact ⟨by rw [e]; rfl, rfl⟩
  · rw [leftR_no h]
    have d0 : decide ((l : Int) - (n : Int) < 0) = true := by simp; omega
    go_enter Tryz.func135, Tryz.ntmps135
    go_wp2
    go_ret
    exact ⟨rfl, rfl⟩
theorem SetAt.regrown {w : World} {b o : Nat} {s : S5} (h : SetAt w b o s) (d : Nat) (os : Array Obj) : SetAt (grow (redrawn w d) os) b o s :=
  ⟨cell_regrown h.c0 d os, cell_regrown h.c1 d os, cell_regrown h.c2 d os, cell_regrown h.c3 d os, cell_regrown h.c4 d os⟩
set_option maxHeartbeats 1000000 in
theorem eqSet_same (w : World) (s : S5) : Calls Tryz.prog 201 #[.agg #[.int .i64 s.region, .int .i64 s.slot, .int .i64 s.value, .bool s.used, .int .i64 s.version], .agg #[.int .i64 s.region, .int .i64 s.slot, .int .i64 s.value, .bool s.used, .int .i64 s.version]] w fun e w' =>
    e = .returned (.bool true) ∧ Below w.heap.size w w' := by
  obtain ⟨r, l, v, u, x⟩ := s
  go_enter Tryz.func201, Tryz.ntmps201
  go_wp2
  go_ret
  exact ⟨rfl, ((Below.refl _ _).alloc (Nat.le_refl _) _).alloc (by simp) _⟩
set_option maxHeartbeats 1000000 in
theorem eqSetS_some (w : World) (b off cap b' off' cap' n : Nat) (xs : List S5) (hx : xs.length = n) (hn : n ≤ maxLen) (h1 : SetsAt w b off xs) (hb : b < w.heap.size) (h2 : SetsAt w b' off' xs) (hb' : b' < w.heap.size) :
    Calls Tryz.prog 159 #[.slice (some ⟨b, off, none⟩) n cap, .slice (some ⟨b', off', none⟩) n cap'] w fun e w' => e = .returned (.bool true) ∧ Below w.heap.size w w' := by
  unfold maxLen at hn
  go_enter Tryz.func159, Tryz.ntmps159
  go_wp2
  go_loopw [5] (fun i wr => ∃ k : Nat, k ≤ n ∧ i = .int .i64 k ∧ Below w.heap.size w wr) (fun i _ => n - (intOf i).toNat)
  case atStart => exact ⟨0, Nat.zero_le _, rfl, Below.refl _ _⟩
  case round =>
    obtain ⟨k, hk, rfl, hbl⟩ := hrel
    by_cases hlt : k < n
    · obtain ⟨s, hsk⟩ : ∃ s, xs[k]? = some s := ⟨xs[k]'(by omega), by simp⟩
      have t1 := (((h1 k s hsk).below hbl hb).regrown)
      have t2 := (((h2 k s hsk).below hbl hb').regrown)
      have c0 := fun d os => (t1 d os).c0
      have c1 := fun d os => (t1 d os).c1
      have c2 := fun d os => (t1 d os).c2
      have c3 := fun d os => (t1 d os).c3
      have c4 := fun d os => (t1 d os).c4
      have e0 := fun d os => (t2 d os).c0
      have e1 := fun d os => (t2 d os).c1
      have e2 := fun d os => (t2 d os).c2
      have e3 := fun d os => (t2 d os).c3
      have e4 := fun d os => (t2 d os).c4
      have cQ : ∀ d os, Calls Tryz.prog 201 #[.agg #[.int .i64 s.region, .int .i64 s.slot, .int .i64 s.value, .bool s.used, .int .i64 s.version], .agg #[.int .i64 s.region, .int .i64 s.slot, .int .i64 s.value, .bool s.used, .int .i64 s.version]] (grow (redrawn wr d) os) fun e w'' => e = .returned (.bool true) ∧ ∃ p : Regrown, w'' = grow (redrawn wr p.d) p.os := fun d os => Calls.regrown_of (eqSet_same _ s)
      have K : Hid (Below w.heap.size w wr) := hbl
      clear t1 t2 hbl hsk h1 h2
      go_wp2_with fail
      refine wp_region_quiet_below (by kernel_rfl) (by kernel_rfl) ?_
      repeat (quiet_step (exact cQ _ _))
      refine wpQuiet_nil ?_
      intro _ hw'
      obtain ⟨⟨dq, osq⟩, hw''⟩ := hw'
      subst hw''
      have bq := below_regrown wr dq osq
      go_wp2
      exact ⟨⟨k + 1, by omega, by simp, K.out.trans (bq.mono K.out.size)⟩, by simp [intOf]; omega⟩
    · have : k = n := by omega
      subst this
      have hd : decide (k < k) = false := by simp
      go_wp2
      go_ret
      exact ⟨rfl, hbl⟩
theorem eqSetS_none (w : World) (a a' : Option Addr) (cap cap' : Nat) : Calls Tryz.prog 159 #[.slice a 0 cap, .slice a' 0 cap'] w fun e w' => e = .returned (.bool true) ∧ Below w.heap.size w w' := by
  go_enter Tryz.func159, Tryz.ntmps159
  go_wp2
  go_loopw [5] (fun i wr => i = .int .i64 0 ∧ Below w.heap.size w wr) (fun _ _ => 0)
  case atStart => exact ⟨rfl, Below.refl _ _⟩
  case round =>
    obtain ⟨rfl, hbl⟩ := hrel
    go_wp2
    go_ret
    exact ⟨rfl, hbl⟩
theorem eqSetS_any (w : World) (a a' : Option Addr) (n cap cap' : Nat) (xs : List S5) (hn : n ≤ maxLen) (h1 : Sl w w.heap.size a n xs) (h2 : Sl w w.heap.size a' n xs) :
    Calls Tryz.prog 159 #[.slice a n cap, .slice a' n cap'] w fun e w' => e = .returned (.bool true) ∧ Below w.heap.size w w' := by
  obtain ⟨hx, h1⟩ := h1
  obtain ⟨_, h2⟩ := h2
  rcases h1 with rfl | ⟨b, off, rfl, hb, h1⟩
  · exact eqSetS_none w a a' cap cap'
  · rcases h2 with rfl | ⟨b', off', rfl, hb', h2⟩
    · exact eqSetS_none w _ a' cap cap'
    · exact eqSetS_some w b off cap b' off' cap' n xs hx hn h1 hb h2 hb'
def mkSet (k : Int) (j : Nat) : S5 := ⟨k + 5 * (j : Int), k + 5 * (j : Int) + 1, k + 5 * (j : Int) + 1 + 1, (k + 5 * (j : Int) + 1 + 1 + 1) % 3 == 0, k + 5 * (j : Int) + 1 + 1 + 1 + 1⟩
def mkSets (k : Int) (n : Nat) : List S5 := (List.range n).map (mkSet k)
theorem mkSets_at {k : Int} {n j : Nat} (h : j < n) : (mkSets k n)[j]? = some (mkSet k j) := by simp [mkSets, h]
theorem mkSets_len (k : Int) (n : Nat) : (mkSets k n).length = n := by simp [mkSets]
set_option maxHeartbeats 4000000 in
theorem markSetS_k (w : World) (b n cap : Nat) (k : Int) (hn : n ≤ 1048576) (hk : 0 ≤ k) (hk' : k ≤ 1000000000) (hr : Room w b (n * 5)) :
    Calls Tryz.prog 102 #[.slice (some ⟨b, 0, none⟩) n cap, .int .i64 k] w fun e w' => e = .returned (.int .i64 (k + 5 * (n : Int))) ∧ OnlyBlock b w w' ∧ SetsAt w' b 0 (mkSets k n) ∧ Room w' b (n * 5) := by
  go_enter Tryz.func102, Tryz.ntmps102
  go_wp2
  go_loopw [1, 5] (fun v1 v5 wr => ∃ j : Nat, j ≤ n ∧ v5 = .int .i64 j ∧ v1 = .int .i64 (k + 5 * (j : Int)) ∧ OnlyBlock b w wr ∧ Room wr b (n * 5) ∧ SetsAt wr b 0 ((mkSets k n).take j)) (fun _ v5 _ => n - (intOf v5).toNat)
  case atStart => exact ⟨0, Nat.zero_le _, rfl, by simp, OnlyBlock.refl _ _, hr, fun i s e => by simp at e⟩
  case round =>
    obtain ⟨j, hj, rfl, rfl, hob, hro, hse⟩ := hrel
    by_cases hlt : j < n
    · obtain ⟨v0, d0, f0⟩ := hro (j * 5) (by omega)
      obtain ⟨v1, d1, f1⟩ := hro (j * 5 + 1) (by omega)
      obtain ⟨v2, d2, f2⟩ := hro (j * 5 + 2) (by omega)
      obtain ⟨v3, d3, f3⟩ := hro (j * 5 + 3) (by omega)
      obtain ⟨v4, d4, f4⟩ := hro (j * 5 + 4) (by omega)
      have K : Hid (OnlyBlock b w wr ∧ Room wr b (n * 5) ∧ SetsAt wr b 0 ((mkSets k n).take j)) := ⟨hob, hro, hse⟩
      clear hob hro hse hr
      go_wp2
      obtain ⟨hob, hro, hse⟩ := K.out
      refine ⟨⟨j + 1, by omega, by simp, by congr 1; push_cast; omega, ((((hob.setCell _ _).setCell _ _).setCell _ _).setCell _ _).setCell _ _, ((((hro.set _).set _).set _).set _).set _, hse.put (s := mkSet k j) (mkSets_at hlt) hro (by omega)⟩, by simp [intOf]; omega⟩
    · have : j = n := by omega
      subst this
      have hd : decide ((j : Int) < (j : Int)) = false := by simp
      rw [List.take_of_length_le (by rw [mkSets_len]; omega)] at hse
      have K : Hid (OnlyBlock b w wr ∧ SetsAt wr b 0 (mkSets k j) ∧ Room wr b (j * 5)) := ⟨hob, hse, hro⟩
      clear hob hro hse hr
      go_wp2
      go_ret
      exact ⟨rfl, K.out.1, K.out.2.1, K.out.2.2⟩
set_option maxHeartbeats 1000000 in
theorem markSetS_nil (w : World) (a : Option Addr) (cap : Nat) (k : Int) : Calls Tryz.prog 102 #[.slice a 0 cap, .int .i64 k] w fun e w' => e = .returned (.int .i64 k) ∧ w' = w := by
  go_enter Tryz.func102, Tryz.ntmps102
  go_wp2
  go_loop [1, 5] (fun v1 v5 => v1 = .int .i64 k ∧ v5 = .int .i64 0) (fun _ _ => 0)
  case atStart => exact ⟨rfl, rfl⟩
  case round =>
    obtain ⟨rfl, rfl⟩ := hrel
    go_wp2
    go_ret
    exact ⟨rfl, rfl⟩
set_option maxHeartbeats 4000000 in
theorem heldSetS_k (w : World) (a : Option Addr) (n cap : Nat) (k : Int) (hn : n ≤ 1048576) (hk : 0 ≤ k) (hk' : k ≤ 1000000000) (hs : Sl w w.heap.size a n (mkSets k n)) :
    Calls Tryz.prog 107 #[.slice a n cap, .int .i64 k] w fun e w' => e = .returned (.int .i64 (k + 5 * (n : Int))) ∧ w' = w := by
  obtain ⟨_, hs⟩ := hs
  go_enter Tryz.func107, Tryz.ntmps107
  go_wp2
  go_loop [1, 5] (fun v1 v5 => ∃ j : Nat, j ≤ n ∧ v5 = .int .i64 j ∧ v1 = .int .i64 (k + 5 * (j : Int))) (fun _ v5 => n - (intOf v5).toNat)
  case atStart => exact ⟨0, Nat.zero_le _, rfl, by simp⟩
  case round =>
    obtain ⟨j, hj, rfl, rfl⟩ := hrel
    by_cases hlt : j < n
    · rcases hs with hs | ⟨b, off, rfl, hb, h1⟩
      · omega
      · obtain ⟨c0, c1, c2, c3, c4⟩ := h1 j (mkSet k j) (mkSets_at hlt)
        simp only [mkSet] at c0 c1 c2 c3 c4
        clear h1
        go_wp2
        exact ⟨⟨j + 1, by omega, by simp, by congr 1; push_cast; omega⟩, by simp [intOf]; omega⟩
    · have : j = n := by omega
      subst this
      have hd : decide ((j : Int) < (j : Int)) = false := by simp
      clear hs
      go_wp2
      go_ret
      exact ⟨rfl, rfl⟩
structure N5 where
  region : Int
  slot : Int
  version : Int
  value : Int
  used : Bool
set_option maxHeartbeats 1000000 in
theorem toNote_any (w : World) (s : N5) : Calls Tryz.prog 183 #[.agg #[.int .i64 s.region, .int .i64 s.slot, .int .i64 s.version, .int .i64 s.value, .bool s.used]] w fun e w' =>
    e = .returned (.agg #[.int .i64 s.region, .int .i64 s.slot, .int .i64 s.version, .int .i64 s.value, .bool s.used]) ∧ Below w.heap.size w w' := by
  obtain ⟨r, l, v, u, x⟩ := s
  go_enter Tryz.func183, Tryz.ntmps183
  go_wp2
  refine bodyPost_ret (v := .agg #[.int .i64 r, .int .i64 l, .int .i64 v, .int .i64 u, .bool x]) (by simp [results, Tryz.results183, go_sem]) rfl ⟨rfl, ?_⟩
  exact (((Below.refl _ _).alloc (Nat.le_refl _) _).alloc (by simp) _).alloc (by simp; omega) _
structure NoteAt (w : World) (b o : Nat) (s : N5) : Prop where
  c0 : w.cell? ⟨b, o, none⟩ = some (.int .i64 s.region)
  c1 : w.cell? ⟨b, o + 1, none⟩ = some (.int .i64 s.slot)
  c2 : w.cell? ⟨b, o + 2, none⟩ = some (.int .i64 s.version)
  c3 : w.cell? ⟨b, o + 3, none⟩ = some (.int .i64 s.value)
  c4 : w.cell? ⟨b, o + 4, none⟩ = some (.bool s.used)
theorem NoteAt.below {w w' : World} {B b o : Nat} {s : N5} (h : NoteAt w b o s) (hb : Below B w w') (hB : b < B) : NoteAt w' b o s :=
  ⟨by rw [hb.cell hB]; exact h.c0, by rw [hb.cell hB]; exact h.c1, by rw [hb.cell hB]; exact h.c2, by rw [hb.cell hB]; exact h.c3, by rw [hb.cell hB]; exact h.c4⟩
def NotesAt (w : World) (b off : Nat) (xs : List N5) : Prop := ∀ i s, xs[i]? = some s → NoteAt w b (off + i * 5) s
theorem NotesAt.below {w w' : World} {B b off : Nat} {xs : List N5} (h : NotesAt w b off xs) (hb : Below B w w') (hB : b < B) : NotesAt w' b off xs := fun i s e => (h i s e).below hb hB
def SlNo (w : World) (B : Nat) (a : Option Addr) (n : Nat) (xs : List N5) : Prop := xs.length = n ∧ (n = 0 ∨ ∃ b off, a = some ⟨b, off, none⟩ ∧ b < B ∧ NotesAt w b off xs)
theorem SlNo.below {w w' : World} {B : Nat} {a : Option Addr} {n : Nat} {xs : List N5} (h : SlNo w B a n xs) (hb : Below B w w') : SlNo w' B a n xs := by
  obtain ⟨h1, h2⟩ := h
  refine ⟨h1, ?_⟩
  rcases h2 with h2 | ⟨b, off, ha, hB, hx⟩
  · exact .inl h2
  · exact .inr ⟨b, off, ha, hB, hx.below hb hB⟩
theorem SlNo.mono {w : World} {B B' : Nat} {a : Option Addr} {n : Nat} {xs : List N5} (h : SlNo w B a n xs) (hB : B ≤ B') : SlNo w B' a n xs := by
  obtain ⟨h1, h2⟩ := h
  refine ⟨h1, ?_⟩
  rcases h2 with h2 | ⟨b, off, ha, hb, hx⟩
  · exact .inl h2
  · exact .inr ⟨b, off, ha, by omega, hx⟩
theorem NotesAt.far {w : World} {b off : Nat} {xs : List N5} (h : NotesAt w b off xs) {p : Addr} (hp : p.block ≠ b) (v : Value) : NotesAt (w.setCell p v) b off xs := fun i s e =>
  ⟨by rw [cell_set_far hp]; exact (h i s e).c0, by rw [cell_set_far hp]; exact (h i s e).c1, by rw [cell_set_far hp]; exact (h i s e).c2, by rw [cell_set_far hp]; exact (h i s e).c3, by rw [cell_set_far hp]; exact (h i s e).c4⟩
theorem NoteAt.set {w : World} {b o p : Nat} {s : N5} (h : NoteAt w b o s) (hp : p < o ∨ o + 5 ≤ p) (v : Value) : NoteAt (w.setCell ⟨b, p, none⟩ v) b o s :=
  ⟨by rw [cell_set_other (by omega)]; exact h.c0, by rw [cell_set_other (by omega)]; exact h.c1, by rw [cell_set_other (by omega)]; exact h.c2, by rw [cell_set_other (by omega)]; exact h.c3, by rw [cell_set_other (by omega)]; exact h.c4⟩
theorem info_note : (Tryz.prog.info? 106).map (fun i => (i.zero, i.size, i.bytes)) = some (some (.agg #[.int .i64 0, .int .i64 0, .int .i64 0, .int .i64 0, .bool false]), 5, 40) := by kernel_rfl
theorem make_notes (n : Nat) (hn : n ≤ 1048576) (w : World) : (Instr.makeSlice 53 (.int .i64 (n : Int)) (.int .i64 (n : Int))).run Tryz.prog w = .ok (.slice (some ⟨w.heap.size, 0, none⟩) n n) (w.alloc (.cells (madeCells #[.int .i64 0, .int .i64 0, .int .i64 0, .int .i64 0, .bool false] (n * 5)) 106)) := by
  obtain ⟨i, hi, hzz⟩ := Option.map_eq_some_iff.1 info_note
  simp only [Prod.mk.injEq] at hzz
  obtain ⟨hz, hs, hb⟩ := hzz
  have := run_make (P := Tryz.prog) w 53 106 i _ Tryz.underlying53 hi hz .i64 .i64 (n : Int) (n : Int) (by omega) (by omega) (by rw [hb]; omega) (by omega)
  rw [hs] at this
  simpa [Value.cells] using this
theorem NoteAt.put {w : World} {b o : Nat} {v0 v1 v2 v3 v4 : Value} (s : N5) (h0 : w.cell? ⟨b, o, none⟩ = some v0) (h1 : w.cell? ⟨b, o + 1, none⟩ = some v1) (h2 : w.cell? ⟨b, o + 2, none⟩ = some v2) (h3 : w.cell? ⟨b, o + 3, none⟩ = some v3) (h4 : w.cell? ⟨b, o + 4, none⟩ = some v4) :
    NoteAt (((((w.setCell ⟨b, o, none⟩ (.int .i64 s.region)).setCell ⟨b, o + 1, none⟩ (.int .i64 s.slot)).setCell ⟨b, o + 2, none⟩ (.int .i64 s.version)).setCell ⟨b, o + 3, none⟩ (.int .i64 s.value)).setCell ⟨b, o + 4, none⟩ (.bool s.used)) b o s := by
  refine ⟨?_, ?_, ?_, ?_, ?_⟩
  · rw [cell_set_other (by omega), cell_set_other (by omega), cell_set_other (by omega), cell_set_other (by omega)]; exact cell_set_same h0
  · rw [cell_set_other (by omega), cell_set_other (by omega), cell_set_other (by omega)]; exact cell_set_same (by rw [cell_set_other (by omega)]; exact h1)
  · rw [cell_set_other (by omega), cell_set_other (by omega)]; exact cell_set_same (by rw [cell_set_other (by omega), cell_set_other (by omega)]; exact h2)
  · rw [cell_set_other (by omega)]; exact cell_set_same (by rw [cell_set_other (by omega), cell_set_other (by omega), cell_set_other (by omega)]; exact h3)
  · exact cell_set_same (by rw [cell_set_other (by omega), cell_set_other (by omega), cell_set_other (by omega), cell_set_other (by omega)]; exact h4)
theorem NotesAt.put {w : World} {b k : Nat} {xs : List N5} {s : N5} (h : NotesAt w b 0 (xs.take k)) (hs : xs[k]? = some s) {m : Nat} (hr : Room w b m) (hm : k * 5 + 5 ≤ m) :
    NotesAt (((((w.setCell ⟨b, k * 5, none⟩ (.int .i64 s.region)).setCell ⟨b, k * 5 + 1, none⟩ (.int .i64 s.slot)).setCell ⟨b, k * 5 + 2, none⟩ (.int .i64 s.version)).setCell ⟨b, k * 5 + 3, none⟩ (.int .i64 s.value)).setCell ⟨b, k * 5 + 4, none⟩ (.bool s.used)) b 0 (xs.take (k + 1)) := by
  intro i t e
  rw [List.getElem?_take] at e
  split at e
  · rename_i hi
    by_cases hik : i = k
    · subst hik
      rw [hs] at e
      obtain rfl := Option.some.inj e
      obtain ⟨v0, d0, _⟩ := hr (i * 5) (by omega)
      obtain ⟨v1, d1, _⟩ := hr (i * 5 + 1) (by omega)
      obtain ⟨v2, d2, _⟩ := hr (i * 5 + 2) (by omega)
      obtain ⟨v3, d3, _⟩ := hr (i * 5 + 3) (by omega)
      obtain ⟨v4, d4, _⟩ := hr (i * 5 + 4) (by omega)
      simpa using NoteAt.put s d0 d1 d2 d3 d4
    · have := h i t (by rw [List.getElem?_take, if_pos (by omega)]; exact e)
      exact ((((this.set (by omega) _).set (by omega) _).set (by omega) _).set (by omega) _).set (by omega) _
  · cases e
theorem NotesAt.of_block {w w' : World} {b off : Nat} {xs : List N5} (h : NotesAt w b off xs) (e : w'.heap[b]? = w.heap[b]?) : NotesAt w' b off xs := fun i s hs => by
  obtain ⟨c0, c1, c2, c3, c4⟩ := h i s hs
  exact ⟨(World.cell?_of_block (a := ⟨b, _, none⟩) e).trans c0, (World.cell?_of_block (a := ⟨b, _, none⟩) e).trans c1, (World.cell?_of_block (a := ⟨b, _, none⟩) e).trans c2, (World.cell?_of_block (a := ⟨b, _, none⟩) e).trans c3, (World.cell?_of_block (a := ⟨b, _, none⟩) e).trans c4⟩
theorem toNoteS_none (w : World) (a : Option Addr) (cap : Nat) : Calls Tryz.prog 144 #[.slice a 0 cap] w fun e w' =>
    e = .returned (.slice (some ⟨w.heap.size, 0, none⟩) 0 0) ∧ Below w.heap.size w w' ∧ w.heap.size < w'.heap.size := by
  have hmk : ∀ w : World, (Instr.makeSlice 53 (.int .i64 0) (.int .i64 0)).run Tryz.prog w = .ok (.slice (some ⟨w.heap.size, 0, none⟩) 0 0) (w.alloc (.cells (madeCells #[.int .i64 0, .int .i64 0, .int .i64 0, .int .i64 0, .bool false] 0) 106)) := fun w => by simpa using make_notes 0 (by omega) w
  go_enter Tryz.func144, Tryz.ntmps144
  go_wp2
  go_loopw [4] (fun i wr => i = .int .i64 0 ∧ Below w.heap.size w wr ∧ w.heap.size < wr.heap.size) (fun _ _ => 0)
  case atStart => exact ⟨rfl, (Below.refl _ _).alloc (Nat.le_refl _) _, by simp⟩
  case round =>
    obtain ⟨rfl, hbl, hsz⟩ := hrel
    go_wp2
    go_ret
    exact ⟨rfl, hbl, hsz⟩
set_option maxHeartbeats 1000000 in
theorem toNoteS_someR (w : World) (b off n cap : Nat) (xs : List N5) (hx : xs.length = n) (hn : n ≤ 1048576) (hb : b < w.heap.size) (hs : NotesAt w b off xs) : Calls Tryz.prog 144 #[.slice (some ⟨b, off, none⟩) n cap] w fun e w' =>
    e = .returned (.slice (some ⟨w.heap.size, 0, none⟩) n n) ∧ Below w.heap.size w w' ∧ w.heap.size < w'.heap.size ∧ NotesAt w' w.heap.size 0 xs ∧ Room w' w.heap.size (n * 5) := by
  have hmk := make_notes n hn
  go_enter Tryz.func144, Tryz.ntmps144
  go_wp2
  go_loopw [4] (fun i wr => ∃ k : Nat, k ≤ n ∧ i = .int .i64 k ∧ Below w.heap.size w wr ∧ w.heap.size < wr.heap.size ∧ Room wr w.heap.size (n * 5) ∧ NotesAt wr w.heap.size 0 (xs.take k))
     (fun i _ => n - (intOf i).toNat)
  case atStart => exact ⟨0, Nat.zero_le _, rfl, (Below.refl _ _).alloc (Nat.le_refl _) _, by simp, room_made _ _ _ _, fun i s e => by simp at e⟩
  case round =>
    obtain ⟨k, hk, rfl, hbl, hsz, hro, hdo⟩ := hrel
    by_cases hlt : k < n
    · have hs' := hs.below hbl hb
      obtain ⟨s, hsk⟩ : ∃ s, xs[k]? = some s := ⟨xs[k]'(by omega), by simp⟩
      obtain ⟨c0, c1, c2, c3, c4⟩ := hs' k s hsk
      clear hs' hmk
      have K : Hid (Room wr w.heap.size (n * 5) ∧ NotesAt wr w.heap.size 0 (xs.take k) ∧ xs[k]? = some s ∧ Below w.heap.size w wr) := ⟨hro, hdo, hsk, hbl⟩
      clear hro hdo hsk hbl
      go_wp2_with fail
      refine (toNote_any _ s).mono ?_
      rintro e w1 ⟨rfl, b1⟩
      obtain ⟨hro, hdo, hsk, hbl⟩ := K.out
      have hro1 := hro.below b1 hsz
      have hdo1 := hdo.below b1 hsz
      obtain ⟨v0, d0, f0⟩ := hro1 (k * 5) (by omega)
      obtain ⟨v1, d1, f1⟩ := hro1 (k * 5 + 1) (by omega)
      obtain ⟨v2, d2, f2⟩ := hro1 (k * 5 + 2) (by omega)
      obtain ⟨v3, d3, f3⟩ := hro1 (k * 5 + 3) (by omega)
      obtain ⟨v4, d4, f4⟩ := hro1 (k * 5 + 4) (by omega)
      clear hro hdo hsk hbl
      have K2 : Hid (Room w1 w.heap.size (n * 5) ∧ NotesAt w1 w.heap.size 0 (xs.take k)) := ⟨hro1, hdo1⟩
      clear hro1 hdo1
      go_wp2
      obtain ⟨hro, hdo, hsk, hbl⟩ := K.out
      obtain ⟨hro1, hdo1⟩ := K2.out
      have hbl1 := hbl.trans (b1.mono (Nat.le_of_lt hsz))
      refine ⟨⟨k + 1, by omega, by simp, ((((hbl1.setCell (p := ⟨w.heap.size, k * 5, none⟩) (Nat.le_refl _) _).setCell (p := ⟨w.heap.size, k * 5 + 1, none⟩) (Nat.le_refl _) _).setCell (p := ⟨w.heap.size, k * 5 + 2, none⟩) (Nat.le_refl _) _).setCell (p := ⟨w.heap.size, k * 5 + 3, none⟩) (Nat.le_refl _) _).setCell (p := ⟨w.heap.size, k * 5 + 4, none⟩) (Nat.le_refl _) _,
        by have := b1.size; simp [World.setCell]; omega, ((((hro1.set _).set _).set _).set _).set _, hdo1.put hsk hro1 (by omega)⟩, by simp [intOf]; omega⟩
    · have : k = n := by omega
      subst this
      have hd : decide (k < k) = false := by simp
      go_wp2
      go_ret
      refine ⟨rfl, hbl, hsz, ?_, hro⟩
      rw [← hx, List.take_length] at hdo
      exact hdo
theorem toNoteS_anyR (w : World) (a : Option Addr) (n cap : Nat) (xs : List N5) (hn : n ≤ 1048576) (hs : SlNo w w.heap.size a n xs) : Calls Tryz.prog 144 #[.slice a n cap] w fun e w' =>
    e = .returned (.slice (some ⟨w.heap.size, 0, none⟩) n n) ∧ Below w.heap.size w w' ∧ w.heap.size < w'.heap.size ∧ NotesAt w' w.heap.size 0 xs ∧ Room w' w.heap.size (n * 5) := by
  obtain ⟨h1, h2⟩ := hs
  rcases h2 with rfl | ⟨b, off, rfl, hb, hx⟩
  · refine (toNoteS_none w a cap).mono ?_
    rintro e w' ⟨rfl, h, h'⟩
    exact ⟨rfl, h, h', (fun i s e => by rw [List.eq_nil_of_length_eq_zero h1] at e; simp at e), fun j hj => by omega⟩
  · exact toNoteS_someR w b off n cap xs h1 hn hb hx
theorem szNoteS_l (w : World) (a : Option Addr) (n cap : Nat) (l : Nat) (hn : n ≤ maxLen) (hl : l ≤ 1048576) : Calls Tryz.prog 134 #[.slice a n cap, .int .i64 (l : Int)] w fun e w' => e = .returned (.int .i64 (leftR l n)) ∧ w' = w := by
  unfold maxLen at hn
  by_cases h : n ≤ l
  · rw [leftR_yes h]
    have d0 : decide ((l : Int) - (n : Int) < 0) = false := by simp; omega
    go_enter Tryz.func134, Tryz.ntmps134
    go_wp2
    go_ret
    have e : ((l - n : Nat) : Int) = (l : Int) - (n : Int) := by omega
    exact ⟨by rw [e]; rfl, rfl⟩
  · rw [leftR_no h]
    have d0 : decide ((l : Int) - (n : Int) < 0) = true := by simp; omega
    go_enter Tryz.func134, Tryz.ntmps134
    go_wp2
    go_ret
    exact ⟨rfl, rfl⟩
theorem NoteAt.regrown {w : World} {b o : Nat} {s : N5} (h : NoteAt w b o s) (d : Nat) (os : Array Obj) : NoteAt (grow (redrawn w d) os) b o s :=
  ⟨cell_regrown h.c0 d os, cell_regrown h.c1 d os, cell_regrown h.c2 d os, cell_regrown h.c3 d os, cell_regrown h.c4 d os⟩
set_option maxHeartbeats 1000000 in
theorem eqNote_same (w : World) (s : N5) : Calls Tryz.prog 200 #[.agg #[.int .i64 s.region, .int .i64 s.slot, .int .i64 s.version, .int .i64 s.value, .bool s.used], .agg #[.int .i64 s.region, .int .i64 s.slot, .int .i64 s.version, .int .i64 s.value, .bool s.used]] w fun e w' =>
    e = .returned (.bool true) ∧ Below w.heap.size w w' := by
  obtain ⟨r, l, v, u, x⟩ := s
  go_enter Tryz.func200, Tryz.ntmps200
  go_wp2
  go_ret
  exact ⟨rfl, ((Below.refl _ _).alloc (Nat.le_refl _) _).alloc (by simp) _⟩
set_option maxHeartbeats 1000000 in
theorem eqNoteS_some (w : World) (b off cap b' off' cap' n : Nat) (xs : List N5) (hx : xs.length = n) (hn : n ≤ maxLen) (h1 : NotesAt w b off xs) (hb : b < w.heap.size) (h2 : NotesAt w b' off' xs) (hb' : b' < w.heap.size) :
    Calls Tryz.prog 158 #[.slice (some ⟨b, off, none⟩) n cap, .slice (some ⟨b', off', none⟩) n cap'] w fun e w' => e = .returned (.bool true) ∧ Below w.heap.size w w' := by
  unfold maxLen at hn
  go_enter Tryz.func158, Tryz.ntmps158
  go_wp2
  go_loopw [5] (fun i wr => ∃ k : Nat, k ≤ n ∧ i = .int .i64 k ∧ Below w.heap.size w wr) (fun i _ => n - (intOf i).toNat)
  case atStart => exact ⟨0, Nat.zero_le _, rfl, Below.refl _ _⟩
  case round =>
    obtain ⟨k, hk, rfl, hbl⟩ := hrel
    by_cases hlt : k < n
    · obtain ⟨s, hsk⟩ : ∃ s, xs[k]? = some s := ⟨xs[k]'(by omega), by simp⟩
      have t1 := (((h1 k s hsk).below hbl hb).regrown)
      have t2 := (((h2 k s hsk).below hbl hb').regrown)
      have c0 := fun d os => (t1 d os).c0
      have c1 := fun d os => (t1 d os).c1
      have c2 := fun d os => (t1 d os).c2
      have c3 := fun d os => (t1 d os).c3
      have c4 := fun d os => (t1 d os).c4
      have e0 := fun d os => (t2 d os).c0
      have e1 := fun d os => (t2 d os).c1
      have e2 := fun d os => (t2 d os).c2
      have e3 := fun d os => (t2 d os).c3
      have e4 := fun d os => (t2 d os).c4
      have cQ : ∀ d os, Calls Tryz.prog 200 #[.agg #[.int .i64 s.region, .int .i64 s.slot, .int .i64 s.version, .int .i64 s.value, .bool s.used], .agg #[.int .i64 s.region, .int .i64 s.slot, .int .i64 s.version, .int .i64 s.value, .bool s.used]] (grow (redrawn wr d) os) fun e w'' => e = .returned (.bool true) ∧ ∃ p : Regrown, w'' = grow (redrawn wr p.d) p.os := fun d os => Calls.regrown_of (eqNote_same _ s)
      have K : Hid (Below w.heap.size w wr) := hbl
      clear t1 t2 hbl hsk h1 h2
      go_wp2_with fail
      refine wp_region_quiet_below (by kernel_rfl) (by kernel_rfl) ?_
      repeat (quiet_step (exact cQ _ _))
      refine wpQuiet_nil ?_
      intro _ hw'
      obtain ⟨⟨dq, osq⟩, hw''⟩ := hw'
      subst hw''
      have bq := below_regrown wr dq osq
      go_wp2
      exact ⟨⟨k + 1, by omega, by simp, K.out.trans (bq.mono K.out.size)⟩, by simp [intOf]; omega⟩
    · have : k = n := by omega
      subst this
      have hd : decide (k < k) = false := by simp
      go_wp2
      go_ret
      exact ⟨rfl, hbl⟩
theorem eqNoteS_none (w : World) (a a' : Option Addr) (cap cap' : Nat) : Calls Tryz.prog 158 #[.slice a 0 cap, .slice a' 0 cap'] w fun e w' => e = .returned (.bool true) ∧ Below w.heap.size w w' := by
  go_enter Tryz.func158, Tryz.ntmps158
  go_wp2
  go_loopw [5] (fun i wr => i = .int .i64 0 ∧ Below w.heap.size w wr) (fun _ _ => 0)
  case atStart => exact ⟨rfl, Below.refl _ _⟩
  case round =>
    obtain ⟨rfl, hbl⟩ := hrel
    go_wp2
    go_ret
    exact ⟨rfl, hbl⟩
theorem eqNoteS_any (w : World) (a a' : Option Addr) (n cap cap' : Nat) (xs : List N5) (hn : n ≤ maxLen) (h1 : SlNo w w.heap.size a n xs) (h2 : SlNo w w.heap.size a' n xs) :
    Calls Tryz.prog 158 #[.slice a n cap, .slice a' n cap'] w fun e w' => e = .returned (.bool true) ∧ Below w.heap.size w w' := by
  obtain ⟨hx, h1⟩ := h1
  obtain ⟨_, h2⟩ := h2
  rcases h1 with rfl | ⟨b, off, rfl, hb, h1⟩
  · exact eqNoteS_none w a a' cap cap'
  · rcases h2 with rfl | ⟨b', off', rfl, hb', h2⟩
    · exact eqNoteS_none w _ a' cap cap'
    · exact eqNoteS_some w b off cap b' off' cap' n xs hx hn h1 hb h2 hb'
def mkNote (k : Int) (j : Nat) : N5 := ⟨k + 5 * (j : Int), k + 5 * (j : Int) + 1, k + 5 * (j : Int) + 1 + 1, k + 5 * (j : Int) + 1 + 1 + 1, (k + 5 * (j : Int) + 1 + 1 + 1 + 1) % 3 == 0⟩
def mkNotes (k : Int) (n : Nat) : List N5 := (List.range n).map (mkNote k)
theorem mkNotes_at {k : Int} {n j : Nat} (h : j < n) : (mkNotes k n)[j]? = some (mkNote k j) := by simp [mkNotes, h]
theorem mkNotes_len (k : Int) (n : Nat) : (mkNotes k n).length = n := by simp [mkNotes]
set_option maxHeartbeats 4000000 in
theorem markNoteS_k (w : World) (b n cap : Nat) (k : Int) (hn : n ≤ 1048576) (hk : 0 ≤ k) (hk' : k ≤ 1000000000) (hr : Room w b (n * 5)) :
    Calls Tryz.prog 101 #[.slice (some ⟨b, 0, none⟩) n cap, .int .i64 k] w fun e w' => e = .returned (.int .i64 (k + 5 * (n : Int))) ∧ OnlyBlock b w w' ∧ NotesAt w' b 0 (mkNotes k n) ∧ Room w' b (n * 5) := by
  go_enter Tryz.func101, Tryz.ntmps101
  go_wp2
  go_loopw [1, 5] (fun v1 v5 wr => ∃ j : Nat, j ≤ n ∧ v5 = .int .i64 j ∧ v1 = .int .i64 (k + 5 * (j : Int)) ∧ OnlyBlock b w wr ∧ Room wr b (n * 5) ∧ NotesAt wr b 0 ((mkNotes k n).take j)) (fun _ v5 _ => n - (intOf v5).toNat)
  case atStart => exact ⟨0, Nat.zero_le _, rfl, by simp, OnlyBlock.refl _ _, hr, fun i s e => by simp at e⟩
  case round =>
    obtain ⟨j, hj, rfl, rfl, hob, hro, hse⟩ := hrel
    by_cases hlt : j < n
    · obtain ⟨v0, d0, f0⟩ := hro (j * 5) (by omega)
      obtain ⟨v1, d1, f1⟩ := hro (j * 5 + 1) (by omega)
      obtain ⟨v2, d2, f2⟩ := hro (j * 5 + 2) (by omega)
      obtain ⟨v3, d3, f3⟩ := hro (j * 5 + 3) (by omega)
      obtain ⟨v4, d4, f4⟩ := hro (j * 5 + 4) (by omega)
      have K : Hid (OnlyBlock b w wr ∧ Room wr b (n * 5) ∧ NotesAt wr b 0 ((mkNotes k n).take j)) := ⟨hob, hro, hse⟩
      clear hob hro hse hr
      go_wp2
      obtain ⟨hob, hro, hse⟩ := K.out
      refine ⟨⟨j + 1, by omega, by simp, by congr 1; push_cast; omega, ((((hob.setCell _ _).setCell _ _).setCell _ _).setCell _ _).setCell _ _, ((((hro.set _).set _).set _).set _).set _, hse.put (s := mkNote k j) (mkNotes_at hlt) hro (by omega)⟩, by simp [intOf]; omega⟩
    · have : j = n := by omega
      subst this
      have hd : decide ((j : Int) < (j : Int)) = false := by simp
      rw [List.take_of_length_le (by rw [mkNotes_len]; omega)] at hse
      have K : Hid (OnlyBlock b w wr ∧ NotesAt wr b 0 (mkNotes k j) ∧ Room wr b (j * 5)) := ⟨hob, hse, hro⟩
      clear hob hro hse hr
      go_wp2
      go_ret
      exact ⟨rfl, K.out.1, K.out.2.1, K.out.2.2⟩
set_option maxHeartbeats 1000000 in
theorem markNoteS_nil (w : World) (a : Option Addr) (cap : Nat) (k : Int) : Calls Tryz.prog 101 #[.slice a 0 cap, .int .i64 k] w fun e w' => e = .returned (.int .i64 k) ∧ w' = w := by
  go_enter Tryz.func101, Tryz.ntmps101
  go_wp2
  go_loop [1, 5] (fun v1 v5 => v1 = .int .i64 k ∧ v5 = .int .i64 0) (fun _ _ => 0)
  case atStart => exact ⟨rfl, rfl⟩
  case round =>
    obtain ⟨rfl, rfl⟩ := hrel
    go_wp2
    go_ret
    exact ⟨rfl, rfl⟩
set_option maxHeartbeats 4000000 in
theorem heldNoteS_k (w : World) (a : Option Addr) (n cap : Nat) (k : Int) (hn : n ≤ 1048576) (hk : 0 ≤ k) (hk' : k ≤ 1000000000) (hs : SlNo w w.heap.size a n (mkNotes k n)) :
    Calls Tryz.prog 106 #[.slice a n cap, .int .i64 k] w fun e w' => e = .returned (.int .i64 (k + 5 * (n : Int))) ∧ w' = w := by
  obtain ⟨_, hs⟩ := hs
  go_enter Tryz.func106, Tryz.ntmps106
  go_wp2
  go_loop [1, 5] (fun v1 v5 => ∃ j : Nat, j ≤ n ∧ v5 = .int .i64 j ∧ v1 = .int .i64 (k + 5 * (j : Int))) (fun _ v5 => n - (intOf v5).toNat)
  case atStart => exact ⟨0, Nat.zero_le _, rfl, by simp⟩
  case round =>
    obtain ⟨j, hj, rfl, rfl⟩ := hrel
    by_cases hlt : j < n
    · rcases hs with hs | ⟨b, off, rfl, hb, h1⟩
      · omega
      · obtain ⟨c0, c1, c2, c3, c4⟩ := h1 j (mkNote k j) (mkNotes_at hlt)
        simp only [mkNote] at c0 c1 c2 c3 c4
        clear h1
        go_wp2
        exact ⟨⟨j + 1, by omega, by simp, by congr 1; push_cast; omega⟩, by simp [intOf]; omega⟩
    · have : j = n := by omega
      subst this
      have hd : decide ((j : Int) < (j : Int)) = false := by simp
      clear hs
      go_wp2
      go_ret
      exact ⟨rfl, rfl⟩
end Go.Proofs.YtnhjgomfkfehgaaGreatDoor.tx
namespace Go.Proofs.YtnhjgomfkfehgaaGreatDoor.tx
open Go.RowKit
structure T7 where
  id : Int
  home : Int
  phase : Int
  count : Int
  reads : List N5
  sets : List S5
  stamp : Int
structure TV where
  ar : Option Addr
  cr : Nat
  ah : Option Addr
  ch : Nat
def TV.val (v : TV) (t : T7) : Value := .agg #[.int .i64 t.id, .int .i64 t.home, .int .i64 t.phase, .int .i64 t.count, .slice v.ar t.reads.length v.cr, .slice v.ah t.sets.length v.ch, .int .i64 t.stamp]
theorem Sl.later {w w' : World} {a : Option Addr} {n : Nat} {xs : List S5} (h : Sl w w.heap.size a n xs) (hb : Below w.heap.size w w') : Sl w' w'.heap.size a n xs := (h.below hb).mono hb.size
theorem SlNo.later {w w' : World} {a : Option Addr} {n : Nat} {xs : List N5} (h : SlNo w w.heap.size a n xs) (hb : Below w.heap.size w w') : SlNo w' w'.heap.size a n xs := (h.below hb).mono hb.size
structure SlT (w : World) (v : TV) (t : T7) : Prop where
  r : SlNo w w.heap.size v.ar t.reads.length t.reads
  s : Sl w w.heap.size v.ah t.sets.length t.sets
theorem SlT.later {w w' : World} {v : TV} {t : T7} (h : SlT w v t) (hb : Below w.heap.size w w') : SlT w' v t := ⟨h.r.later hb, h.s.later hb⟩
structure TL (t : T7) : Prop where
  r : t.reads.length ≤ maxLen
  s : t.sets.length ≤ maxLen
def OwnNo (w : World) (P : Nat → Prop) (a : Option Addr) (xs : List N5) : Prop := xs = [] ∨ ∃ b, a = some ⟨b, 0, none⟩ ∧ P b ∧ b < w.heap.size ∧ NotesAt w b 0 xs ∧ Room w b (xs.length * 5)
def OwnSe (w : World) (P : Nat → Prop) (a : Option Addr) (xs : List S5) : Prop := xs = [] ∨ ∃ b, a = some ⟨b, 0, none⟩ ∧ P b ∧ b < w.heap.size ∧ SetsAt w b 0 xs ∧ Room w b (xs.length * 5)
theorem OwnNo.keep {w w' : World} {P : Nat → Prop} {a : Option Addr} {xs : List N5} (h : OwnNo w P a xs) (hs : w.heap.size ≤ w'.heap.size) (hk : ∀ q, q < w.heap.size → P q → w'.heap[q]? = w.heap[q]?) : OwnNo w' P a xs := by
  rcases h with h | ⟨b, ha, hp, hl, hn, hr⟩
  · exact .inl h
  · exact .inr ⟨b, ha, hp, Nat.lt_of_lt_of_le hl hs, hn.of_block (hk b hl hp), hr.of_block (hk b hl hp)⟩
theorem OwnSe.keep {w w' : World} {P : Nat → Prop} {a : Option Addr} {xs : List S5} (h : OwnSe w P a xs) (hs : w.heap.size ≤ w'.heap.size) (hk : ∀ q, q < w.heap.size → P q → w'.heap[q]? = w.heap[q]?) : OwnSe w' P a xs := by
  rcases h with h | ⟨b, ha, hp, hl, hn, hr⟩
  · exact .inl h
  · exact .inr ⟨b, ha, hp, Nat.lt_of_lt_of_le hl hs, hn.of_block (hk b hl hp), hr.of_block (hk b hl hp)⟩
theorem OwnNo.mono {w : World} {P Q : Nat → Prop} {a : Option Addr} {xs : List N5} (h : OwnNo w P a xs) (hp : ∀ q, q < w.heap.size → P q → Q q) : OwnNo w Q a xs := by
  rcases h with h | ⟨b, ha, hb, hl, hn, hr⟩
  · exact .inl h
  · exact .inr ⟨b, ha, hp b hl hb, hl, hn, hr⟩
theorem OwnSe.mono {w : World} {P Q : Nat → Prop} {a : Option Addr} {xs : List S5} (h : OwnSe w P a xs) (hp : ∀ q, q < w.heap.size → P q → Q q) : OwnSe w Q a xs := by
  rcases h with h | ⟨b, ha, hb, hl, hn, hr⟩
  · exact .inl h
  · exact .inr ⟨b, ha, hp b hl hb, hl, hn, hr⟩
theorem OwnNo.sl {w : World} {P : Nat → Prop} {a : Option Addr} {xs : List N5} (h : OwnNo w P a xs) : SlNo w w.heap.size a xs.length xs := by
  rcases h with e | ⟨b, ha, _, hl, hn, _⟩
  · exact ⟨rfl, .inl (by rw [e]; rfl)⟩
  · exact ⟨rfl, .inr ⟨b, 0, ha, hl, hn⟩⟩
theorem OwnSe.sl {w : World} {P : Nat → Prop} {a : Option Addr} {xs : List S5} (h : OwnSe w P a xs) : Sl w w.heap.size a xs.length xs := by
  rcases h with e | ⟨b, ha, _, hl, hn, _⟩
  · exact ⟨rfl, .inl (by rw [e]; rfl)⟩
  · exact ⟨rfl, .inr ⟨b, 0, ha, hl, hn⟩⟩
structure OT (w : World) (B : Nat) (v : TV) (t : T7) (PR PS : Nat → Prop) : Prop where
  r : OwnNo w PR v.ar t.reads
  s : OwnSe w PS v.ah t.sets
  rs : ∀ q, PR q → ¬ PS q
  rB : ∀ q, PR q → B ≤ q ∧ q < w.heap.size
  sB : ∀ q, PS q → B ≤ q ∧ q < w.heap.size
def OfT (PR PS : Nat → Prop) (q : Nat) : Prop := PR q ∨ PS q
theorem OT.of {w : World} {B : Nat} {v : TV} {t : T7} {PR PS : Nat → Prop} (h : OT w B v t PR PS) {q : Nat} (hq : OfT PR PS q) : B ≤ q ∧ q < w.heap.size := hq.elim (h.rB q) (h.sB q)
theorem OT.sl {w : World} {B : Nat} {v : TV} {t : T7} {PR PS : Nat → Prop} (h : OT w B v t PR PS) : SlT w v t := ⟨h.r.sl, h.s.sl⟩
theorem OT.keep {w w' : World} {B : Nat} {v : TV} {t : T7} {PR PS : Nat → Prop} (h : OT w B v t PR PS) (hs : w.heap.size ≤ w'.heap.size) (hk : ∀ q, q < w.heap.size → OfT PR PS q → w'.heap[q]? = w.heap[q]?) : OT w' B v t PR PS :=
  ⟨h.r.keep hs (fun q hq hp => hk q hq (.inl hp)), h.s.keep hs (fun q hq hp => hk q hq (.inr hp)), h.rs, fun q hq => ⟨(h.rB q hq).1, Nat.lt_of_lt_of_le (h.rB q hq).2 hs⟩, fun q hq => ⟨(h.sB q hq).1, Nat.lt_of_lt_of_le (h.sB q hq).2 hs⟩⟩
theorem OT.later {w w' : World} {B : Nat} {v : TV} {t : T7} {PR PS : Nat → Prop} (h : OT w B v t PR PS) (hb : Below w.heap.size w w') : OT w' B v t PR PS := h.keep hb.size (fun q hq _ => hb.block q hq)
theorem OT.mono {w : World} {B B' : Nat} {v : TV} {t : T7} {PR PS : Nat → Prop} (h : OT w B v t PR PS) (hb : B' ≤ B) : OT w B' v t PR PS := ⟨h.r, h.s, h.rs, fun q hq => ⟨Nat.le_trans hb (h.rB q hq).1, (h.rB q hq).2⟩, fun q hq => ⟨Nat.le_trans hb (h.sB q hq).1, (h.sB q hq).2⟩⟩
structure BT (X : World) (s : Nat) (v : TV) (t : T7) : Prop where
  c0 : X.cell? ⟨s, 0, none⟩ = some (.int .i64 t.id)
  c1 : X.cell? ⟨s, 1, none⟩ = some (.int .i64 t.home)
  c2 : X.cell? ⟨s, 2, none⟩ = some (.int .i64 t.phase)
  c3 : X.cell? ⟨s, 3, none⟩ = some (.int .i64 t.count)
  c4 : X.cell? ⟨s, 4, none⟩ = some (.slice v.ar t.reads.length v.cr)
  c5 : X.cell? ⟨s, 5, none⟩ = some (.slice v.ah t.sets.length v.ch)
  c6 : X.cell? ⟨s, 6, none⟩ = some (.int .i64 t.stamp)
  fz : ∀ j, X.frozen? ⟨s, j, none⟩ = false
  lt : s < X.heap.size
theorem BT.of_block {X Y : World} {s : Nat} {v : TV} {t : T7} (h : BT X s v t) (hb : Y.heap[s]? = X.heap[s]?) (hs : X.heap.size ≤ Y.heap.size) : BT Y s v t := by
  have c : ∀ {j : Nat} {u : Value}, X.cell? ⟨s, j, none⟩ = some u → Y.cell? ⟨s, j, none⟩ = some u := fun {j u} h => (World.cell?_of_block (a := ⟨s, j, none⟩) hb).trans h
  exact ⟨c h.c0, c h.c1, c h.c2, c h.c3, c h.c4, c h.c5, c h.c6, fun j => (World.frozen?_of_block (a := ⟨s, j, none⟩) hb).trans (h.fz j), Nat.lt_of_lt_of_le h.lt hs⟩
theorem BT.later {X Y : World} {s : Nat} {v : TV} {t : T7} (h : BT X s v t) (hb : Below X.heap.size X Y) : BT Y s v t := h.of_block (hb.block _ h.lt) hb.size
theorem BT.box (X : World) (v : TV) (t : T7) (T : TypeId) : BT (X.alloc (.cells #[.int .i64 t.id, .int .i64 t.home, .int .i64 t.phase, .int .i64 t.count, .slice v.ar t.reads.length v.cr, .slice v.ah t.sets.length v.ch, .int .i64 t.stamp] T)) X.heap.size v t := by
  refine ⟨by go_simp, by go_simp, by go_simp, by go_simp, by go_simp, by go_simp, by go_simp, fun j => by go_simp, by simp⟩
theorem BT.zero (X : World) (T : TypeId) : BT (X.alloc (.cells #[.int .i64 0, .int .i64 0, .int .i64 0, .int .i64 0, .slice none 0 0, .slice none 0 0, .int .i64 0] T)) X.heap.size ⟨none, 0, none, 0⟩ ⟨0, 0, 0, 0, [], [], 0⟩ := BT.box X ⟨none, 0, none, 0⟩ ⟨0, 0, 0, 0, [], [], 0⟩ T
def szT (t : T7) : Nat := t.reads.length + t.sets.length
theorem BT.far {X : World} {s : Nat} {v : TV} {t : T7} (h : BT X s v t) {p : Addr} (hp : p.block ≠ s) (u : Value) : BT (X.setCell p u) s v t := h.of_block (Below.heap_setCell _ _ _ _ (fun e => hp e.symm)) (by simp [World.setCell])
theorem BT.set0 {X : World} {s : Nat} {v : TV} {t : T7} (h : BT X s v t) (z : Int) : BT (X.setCell ⟨s, 0, none⟩ (.int .i64 z)) s v ⟨z, t.home, t.phase, t.count, t.reads, t.sets, t.stamp⟩ := ⟨cell_set_same h.c0, (cell_set_other (by omega)).trans h.c1, (cell_set_other (by omega)).trans h.c2, (cell_set_other (by omega)).trans h.c3, (cell_set_other (by omega)).trans h.c4, (cell_set_other (by omega)).trans h.c5, (cell_set_other (by omega)).trans h.c6, fun j => by rw [World.frozen?_setCell]; exact h.fz j, by simpa [World.setCell] using h.lt⟩
theorem BT.set1 {X : World} {s : Nat} {v : TV} {t : T7} (h : BT X s v t) (z : Int) : BT (X.setCell ⟨s, 1, none⟩ (.int .i64 z)) s v ⟨t.id, z, t.phase, t.count, t.reads, t.sets, t.stamp⟩ := ⟨(cell_set_other (by omega)).trans h.c0, cell_set_same h.c1, (cell_set_other (by omega)).trans h.c2, (cell_set_other (by omega)).trans h.c3, (cell_set_other (by omega)).trans h.c4, (cell_set_other (by omega)).trans h.c5, (cell_set_other (by omega)).trans h.c6, fun j => by rw [World.frozen?_setCell]; exact h.fz j, by simpa [World.setCell] using h.lt⟩
theorem BT.set2 {X : World} {s : Nat} {v : TV} {t : T7} (h : BT X s v t) (z : Int) : BT (X.setCell ⟨s, 2, none⟩ (.int .i64 z)) s v ⟨t.id, t.home, z, t.count, t.reads, t.sets, t.stamp⟩ := ⟨(cell_set_other (by omega)).trans h.c0, (cell_set_other (by omega)).trans h.c1, cell_set_same h.c2, (cell_set_other (by omega)).trans h.c3, (cell_set_other (by omega)).trans h.c4, (cell_set_other (by omega)).trans h.c5, (cell_set_other (by omega)).trans h.c6, fun j => by rw [World.frozen?_setCell]; exact h.fz j, by simpa [World.setCell] using h.lt⟩
theorem BT.set3 {X : World} {s : Nat} {v : TV} {t : T7} (h : BT X s v t) (z : Int) : BT (X.setCell ⟨s, 3, none⟩ (.int .i64 z)) s v ⟨t.id, t.home, t.phase, z, t.reads, t.sets, t.stamp⟩ := ⟨(cell_set_other (by omega)).trans h.c0, (cell_set_other (by omega)).trans h.c1, (cell_set_other (by omega)).trans h.c2, cell_set_same h.c3, (cell_set_other (by omega)).trans h.c4, (cell_set_other (by omega)).trans h.c5, (cell_set_other (by omega)).trans h.c6, fun j => by rw [World.frozen?_setCell]; exact h.fz j, by simpa [World.setCell] using h.lt⟩
theorem BT.set4 {X : World} {s : Nat} {v : TV} {t : T7} (h : BT X s v t) (a : Option Addr) (c : Nat) (xs : List N5) : BT (X.setCell ⟨s, 4, none⟩ (.slice a xs.length c)) s ⟨a, c, v.ah, v.ch⟩ ⟨t.id, t.home, t.phase, t.count, xs, t.sets, t.stamp⟩ := ⟨(cell_set_other (by omega)).trans h.c0, (cell_set_other (by omega)).trans h.c1, (cell_set_other (by omega)).trans h.c2, (cell_set_other (by omega)).trans h.c3, cell_set_same h.c4, (cell_set_other (by omega)).trans h.c5, (cell_set_other (by omega)).trans h.c6, fun j => by rw [World.frozen?_setCell]; exact h.fz j, by simpa [World.setCell] using h.lt⟩
theorem BT.set5 {X : World} {s : Nat} {v : TV} {t : T7} (h : BT X s v t) (a : Option Addr) (c : Nat) (xs : List S5) : BT (X.setCell ⟨s, 5, none⟩ (.slice a xs.length c)) s ⟨v.ar, v.cr, a, c⟩ ⟨t.id, t.home, t.phase, t.count, t.reads, xs, t.stamp⟩ := ⟨(cell_set_other (by omega)).trans h.c0, (cell_set_other (by omega)).trans h.c1, (cell_set_other (by omega)).trans h.c2, (cell_set_other (by omega)).trans h.c3, (cell_set_other (by omega)).trans h.c4, cell_set_same h.c5, (cell_set_other (by omega)).trans h.c6, fun j => by rw [World.frozen?_setCell]; exact h.fz j, by simpa [World.setCell] using h.lt⟩
theorem BT.set6 {X : World} {s : Nat} {v : TV} {t : T7} (h : BT X s v t) (z : Int) : BT (X.setCell ⟨s, 6, none⟩ (.int .i64 z)) s v ⟨t.id, t.home, t.phase, t.count, t.reads, t.sets, z⟩ := ⟨(cell_set_other (by omega)).trans h.c0, (cell_set_other (by omega)).trans h.c1, (cell_set_other (by omega)).trans h.c2, (cell_set_other (by omega)).trans h.c3, (cell_set_other (by omega)).trans h.c4, (cell_set_other (by omega)).trans h.c5, cell_set_same h.c6, fun j => by rw [World.frozen?_setCell]; exact h.fz j, by simpa [World.setCell] using h.lt⟩
def putT (X : World) (s : Nat) (v : TV) (t : T7) : World := ((((((X.setCell ⟨s, 0, none⟩ (.int .i64 t.id)).setCell ⟨s, 1, none⟩ (.int .i64 t.home)).setCell ⟨s, 2, none⟩ (.int .i64 t.phase)).setCell ⟨s, 3, none⟩ (.int .i64 t.count)).setCell ⟨s, 4, none⟩ (.slice v.ar t.reads.length v.cr)).setCell ⟨s, 5, none⟩ (.slice v.ah t.sets.length v.ch)).setCell ⟨s, 6, none⟩ (.int .i64 t.stamp)
theorem BT.put {X : World} {s : Nat} {v0 : TV} {t0 : T7} (h : BT X s v0 t0) (v : TV) (t : T7) : BT (putT X s v t) s v t := ((((((h.set0 t.id).set1 t.home).set2 t.phase).set3 t.count).set4 v.ar v.cr t.reads).set5 v.ah v.ch t.sets).set6 t.stamp
theorem putT_size (X : World) (s : Nat) (v : TV) (t : T7) : (putT X s v t).heap.size = X.heap.size := by simp [putT, World.setCell]
theorem putT_block {X : World} {s : Nat} {v : TV} {t : T7} {q : Nat} (hq : q ≠ s) : (putT X s v t).heap[q]? = X.heap[q]? := by
  unfold putT
  exact (Below.heap_setCell _ _ _ _ hq).trans ((Below.heap_setCell _ _ _ _ hq).trans ((Below.heap_setCell _ _ _ _ hq).trans ((Below.heap_setCell _ _ _ _ hq).trans ((Below.heap_setCell _ _ _ _ hq).trans ((Below.heap_setCell _ _ _ _ hq).trans (Below.heap_setCell _ _ _ _ hq))))))
theorem putT_below {B : Nat} {w X : World} {s : Nat} {v : TV} {t : T7} (h : Below B w X) (hs : B ≤ s) : Below B w (putT X s v t) := by
  unfold putT
  exact ((((((h.setCell (p := ⟨s, 0, none⟩) hs _).setCell (p := ⟨s, 1, none⟩) hs _).setCell (p := ⟨s, 2, none⟩) hs _).setCell (p := ⟨s, 3, none⟩) hs _).setCell (p := ⟨s, 4, none⟩) hs _).setCell (p := ⟨s, 5, none⟩) hs _).setCell (p := ⟨s, 6, none⟩) hs _
theorem OT.put {X : World} {B s : Nat} {v v' : TV} {t t' : T7} {PR PS : Nat → Prop} (h : OT X B v t PR PS) (hs : s < B) : OT (putT X s v' t') B v t PR PS := h.keep (by rw [putT_size]; exact Nat.le_refl _) (fun q _ hq => putT_block (by have := (h.of hq).1; omega))
def arrT (v : TV) (t : T7) : Array Value := #[.int .i64 t.id, .int .i64 t.home, .int .i64 t.phase, .int .i64 t.count, .slice v.ar t.reads.length v.cr, .slice v.ah t.sets.length v.ch, .int .i64 t.stamp]
def CpAns (w : World) (t : T7) (e : Ending) (w' : World) : Prop := ∃ (a4 : Option Addr) (c4 : Nat) (h4 : Option Addr) (d4 : Nat) (PR PS : Nat → Prop), e = .returned ((TV.mk a4 c4 h4 d4).val t) ∧ OT w' w.heap.size ⟨a4, c4, h4, d4⟩ t PR PS ∧ Below w.heap.size w w' ∧ t.reads.length ≤ c4 ∧ t.sets.length ≤ d4
set_option maxHeartbeats 2000000 in
theorem toTx_anyC (w : World) (v : TV) (t : T7) (hr : t.reads.length ≤ 1048576) (hss : t.sets.length ≤ 1048576) (h : SlT w v t) :
    Calls Tryz.prog 87 #[v.val t] w (CpAns w t) := by
  obtain ⟨ar, cr, ah, ch⟩ := v
  simp only [TV.val]
  obtain ⟨W, hW⟩ : ∃ W, W = ((w.alloc (.cells #[.int .i64 t.id, .int .i64 t.home, .int .i64 t.phase, .int .i64 t.count, .slice ar t.reads.length cr, .slice ah t.sets.length ch, .int .i64 t.stamp] 124)).alloc (.cells #[.int .i64 0, .int .i64 0, .int .i64 0, .int .i64 0, .slice none 0 0, .slice none 0 0, .int .i64 0] 56)).alloc (.cells #[.int .i64 t.id, .int .i64 t.home, .int .i64 t.phase, .int .i64 t.count, .slice none 0 0, .slice none 0 0, .int .i64 0] 56) := ⟨_, rfl⟩
  obtain ⟨W1, hW1⟩ : ∃ W1, W1 = (w.alloc (.cells #[.int .i64 t.id, .int .i64 t.home, .int .i64 t.phase, .int .i64 t.count, .slice ar t.reads.length cr, .slice ah t.sets.length ch, .int .i64 t.stamp] 124)) := ⟨_, rfl⟩
  have z1 : W1.heap.size = w.heap.size + 1 := by rw [hW1]; simp
  have x1 : BT W1 w.heap.size ⟨ar, cr, ah, ch⟩ t := by rw [hW1]; exact BT.box w ⟨ar, cr, ah, ch⟩ t _
  have b1 : Below w.heap.size w W1 := by rw [hW1]; exact (Below.refl _ _).alloc (Nat.le_refl _) _
  obtain ⟨W2, hW2⟩ : ∃ W2, W2 = W1.alloc (.cells #[.int .i64 0, .int .i64 0, .int .i64 0, .int .i64 0, .slice none 0 0, .slice none 0 0, .int .i64 0] 56) := ⟨_, rfl⟩
  have b2 : Below W1.heap.size W1 W2 := by rw [hW2]; exact (Below.refl _ _).alloc (Nat.le_refl _) _
  have x2 : BT W2 (w.heap.size + 1) ⟨none, 0, none, 0⟩ ⟨0, 0, 0, 0, [], [], 0⟩ := by rw [hW2, ← z1]; exact BT.zero W1 _
  have z2 : W2.heap.size = w.heap.size + 1 + 1 := by rw [hW2]; simp [z1]
  have hW' : W = W2.alloc (.cells #[.int .i64 t.id, .int .i64 t.home, .int .i64 t.phase, .int .i64 t.count, .slice none 0 0, .slice none 0 0, .int .i64 0] 56) := by rw [hW, hW2, hW1]
  have b3 : Below W2.heap.size W2 W := by rw [hW']; exact (Below.refl _ _).alloc (Nat.le_refl _) _
  have yO : BT W (w.heap.size + 1 + 1) ⟨none, 0, none, 0⟩ ⟨t.id, t.home, t.phase, t.count, [], [], 0⟩ := by rw [hW', ← z2]; exact BT.box W2 ⟨none, 0, none, 0⟩ ⟨t.id, t.home, t.phase, t.count, [], [], 0⟩ _
  have sW : W.heap.size = w.heap.size + 3 := by rw [hW']; simp [z2]
  have yA : BT W w.heap.size ⟨ar, cr, ah, ch⟩ t := (x1.later b2).later b3
  have yR : BT W (w.heap.size + 1) ⟨none, 0, none, 0⟩ ⟨0, 0, 0, 0, [], [], 0⟩ := x2.later b3
  have bW : Below w.heap.size w W := (b1.trans (b2.mono b1.size)).trans (b3.mono (by omega))
  have c1 := toNoteS_anyR W ar t.reads.length cr t.reads hr (h.r.later bW)
  have H : Hid (BT W w.heap.size ⟨ar, cr, ah, ch⟩ t ∧ BT W (w.heap.size + 1) ⟨none, 0, none, 0⟩ ⟨0, 0, 0, 0, [], [], 0⟩ ∧ BT W (w.heap.size + 1 + 1) ⟨none, 0, none, 0⟩ ⟨t.id, t.home, t.phase, t.count, [], [], 0⟩ ∧ W.heap.size = w.heap.size + 3 ∧ Below w.heap.size w W ∧ Sl w w.heap.size ah t.sets.length t.sets ∧ t.sets.length ≤ 1048576) := ⟨yA, yR, yO, sW, bW, h.s, hss⟩
  clear hW' x1 x2 z1 z2 b1 b2 b3 yA yR yO sW bW h hss hr hW2 hW1
  go_enter Tryz.func87, Tryz.ntmps87
  go_wp2_with fail
  rw [← hW]
  clear hW
  refine c1.mono ?_
  clear c1
  rintro e w1 ⟨rfl, b1, l1, n1, r1⟩
  obtain ⟨yA, yR, yO, sW, bW, hs, hl⟩ := H.out
  have yA1 := yA.later b1
  have yR1 := yR.later b1
  have yO1 := yO.later b1
  have c4 := yO1.c4
  have f4 := yO1.fz 4
  have a5 := (yA1.far (p := ⟨w.heap.size + 1 + 1, 4, none⟩) (by dsimp only; omega) (.slice (some ⟨W.heap.size, 0, none⟩) t.reads.length t.reads.length)).c5
  have B1 : Below w.heap.size w (w1.setCell ⟨w.heap.size + 1 + 1, 4, none⟩ (.slice (some ⟨W.heap.size, 0, none⟩) t.reads.length t.reads.length)) := (bW.trans (b1.mono bW.size)).setCell (p := ⟨w.heap.size + 1 + 1, 4, none⟩) (by dsimp only; omega) _
  have c2 := toSetS_anyR (w1.setCell ⟨w.heap.size + 1 + 1, 4, none⟩ (.slice (some ⟨W.heap.size, 0, none⟩) t.reads.length t.reads.length)) ah t.sets.length ch t.sets hl ((hs.later B1))
  have H1 : Hid (BT (w1.setCell ⟨w.heap.size + 1 + 1, 4, none⟩ (.slice (some ⟨W.heap.size, 0, none⟩) t.reads.length t.reads.length)) w.heap.size ⟨ar, cr, ah, ch⟩ t ∧ BT (w1.setCell ⟨w.heap.size + 1 + 1, 4, none⟩ (.slice (some ⟨W.heap.size, 0, none⟩) t.reads.length t.reads.length)) (w.heap.size + 1) ⟨none, 0, none, 0⟩ ⟨0, 0, 0, 0, [], [], 0⟩ ∧ BT (w1.setCell ⟨w.heap.size + 1 + 1, 4, none⟩ (.slice (some ⟨W.heap.size, 0, none⟩) t.reads.length t.reads.length)) (w.heap.size + 1 + 1) ⟨some ⟨W.heap.size, 0, none⟩, t.reads.length, none, 0⟩ ⟨t.id, t.home, t.phase, t.count, t.reads, [], 0⟩ ∧ W.heap.size = w.heap.size + 3 ∧ Below w.heap.size w (w1.setCell ⟨w.heap.size + 1 + 1, 4, none⟩ (.slice (some ⟨W.heap.size, 0, none⟩) t.reads.length t.reads.length)) ∧ NotesAt (w1.setCell ⟨w.heap.size + 1 + 1, 4, none⟩ (.slice (some ⟨W.heap.size, 0, none⟩) t.reads.length t.reads.length)) W.heap.size 0 t.reads ∧ Room (w1.setCell ⟨w.heap.size + 1 + 1, 4, none⟩ (.slice (some ⟨W.heap.size, 0, none⟩) t.reads.length t.reads.length)) W.heap.size (t.reads.length * 5) ∧ W.heap.size < (w1.setCell ⟨w.heap.size + 1 + 1, 4, none⟩ (.slice (some ⟨W.heap.size, 0, none⟩) t.reads.length t.reads.length)).heap.size) :=
    ⟨yA1.far (by dsimp only; omega) _, yR1.far (by dsimp only; omega) _, yO1.set4 _ _ t.reads, sW, B1, n1.far (by dsimp only; omega) _, r1.of_block (Below.heap_setCell _ _ _ _ (by dsimp only; omega)), by simpa [World.setCell] using l1⟩
  clear yA yR yO sW bW hs hl yA1 yR1 yO1 B1 b1 l1 n1 r1 H
  go_wp2_with fail
  generalize (w1.setCell ⟨w.heap.size + 1 + 1, 4, none⟩ (.slice (some ⟨W.heap.size, 0, none⟩) t.reads.length t.reads.length)) = V1 at *
  refine c2.mono ?_
  clear c2 c4 f4 a5
  rintro e w2 ⟨rfl, b2, l2, n2, r2⟩
  obtain ⟨yA, yR, yO, sW, bW, q1, q2, q3⟩ := H1.out
  have yA2 := yA.later b2
  have yR2 := yR.later b2
  have yO2 := yO.later b2
  have yO3 := yO2.set5 (some ⟨V1.heap.size, 0, none⟩) t.sets.length t.sets
  have yA3 := yA2.far (p := ⟨w.heap.size + 1 + 1, 5, none⟩) (by dsimp only; omega) (.slice (some ⟨V1.heap.size, 0, none⟩) t.sets.length t.sets.length)
  have yR3 := yR2.far (p := ⟨w.heap.size + 1 + 1, 5, none⟩) (by dsimp only; omega) (.slice (some ⟨V1.heap.size, 0, none⟩) t.sets.length t.sets.length)
  have yO4 := yO3.set6 t.stamp
  have yR4 := yR3.far (p := ⟨w.heap.size + 1 + 1, 6, none⟩) (by dsimp only; omega) (.int .i64 t.stamp)
  have yR5 := yR4.put ⟨some ⟨W.heap.size, 0, none⟩, t.reads.length, some ⟨V1.heap.size, 0, none⟩, t.sets.length⟩ t
  have k5 := yO2.c5
  have k5f := yO2.fz 5
  have k6 := yO3.c6
  have k6f := yO3.fz 6
  have a6 := yA3.c6
  obtain ⟨o0, o1, o2, o3, o4, o5, o6, _, _⟩ := yO4
  obtain ⟨r0, r1, r2', r3, r4, r5, r6, fr, _⟩ := yR4
  have f0 := fr 0
  have f1 := fr 1
  have f2 := fr 2
  have f3 := fr 3
  have f4 := fr 4
  have f5 := fr 5
  have f6 := fr 6
  simp only [putT] at yR5
  obtain ⟨u0, u1, u2, u3, u4, u5, u6, _, _⟩ := yR5
  have KH : Hid (W.heap.size = w.heap.size + 3 ∧ Below w.heap.size w w2 ∧ NotesAt w2 W.heap.size 0 t.reads ∧ Room w2 W.heap.size (t.reads.length * 5) ∧ W.heap.size < V1.heap.size ∧ V1.heap.size < w2.heap.size ∧ SetsAt w2 V1.heap.size 0 t.sets ∧ Room w2 V1.heap.size (t.sets.length * 5)) := ⟨sW, bW.trans (b2.mono bW.size), q1.below b2 q3, q2.below b2 q3, q3, l2, n2, r2⟩
  clear yA yR yO sW bW q1 q2 q3 yA2 yR2 yO2 yO3 yA3 yR3 b2 l2 n2 r2 fr H1
  go_wp2
  refine bodyPost_ret (v := .agg #[.int .i64 t.id, .int .i64 t.home, .int .i64 t.phase, .int .i64 t.count, .slice (some ⟨W.heap.size, 0, none⟩) t.reads.length t.reads.length, .slice (some ⟨V1.heap.size, 0, none⟩) t.sets.length t.sets.length, .int .i64 t.stamp]) (by simp [results, Tryz.results87, go_sem, u0, u1, u2, u3, u4, u5, u6]) rfl ?_
  obtain ⟨sW, bW, q1, q2, q3, q4, q5, q6⟩ := KH.out
  refine ⟨some ⟨W.heap.size, 0, none⟩, t.reads.length, some ⟨V1.heap.size, 0, none⟩, t.sets.length, fun q => q = W.heap.size, fun q => q = V1.heap.size, rfl, ?_, ?_, Nat.le_refl _, Nat.le_refl _⟩
  · have ot : OT w2 w.heap.size ⟨some ⟨W.heap.size, 0, none⟩, t.reads.length, some ⟨V1.heap.size, 0, none⟩, t.sets.length⟩ t (fun q => q = W.heap.size) (fun q => q = V1.heap.size) :=
      ⟨.inr ⟨_, rfl, rfl, by omega, q1, q2⟩, .inr ⟨_, rfl, rfl, q4, q5, q6⟩, fun q hq hp => by omega, fun q hq => by omega, fun q hq => by omega⟩
    have ot2 := (ot.keep (w' := (w2.setCell ⟨w.heap.size + 1 + 1, 5, none⟩ (.slice (some ⟨V1.heap.size, 0, none⟩) t.sets.length t.sets.length)).setCell ⟨w.heap.size + 1 + 1, 6, none⟩ (.int .i64 t.stamp)) (by simp [World.setCell]) (fun q _ hq => (Below.heap_setCell _ _ _ _ (by show q ≠ w.heap.size + 1 + 1; rcases hq with h | h <;> omega)).trans (Below.heap_setCell _ _ _ _ (by show q ≠ w.heap.size + 1 + 1; rcases hq with h | h <;> omega))))
    exact ot2.keep (by simp [World.setCell]) (fun q _ hq => putT_block (s := w.heap.size + 1) (v := ⟨some ⟨W.heap.size, 0, none⟩, t.reads.length, some ⟨V1.heap.size, 0, none⟩, t.sets.length⟩) (t := t) (by rcases hq with h | h <;> omega))
  · exact putT_below (s := w.heap.size + 1) (v := ⟨some ⟨W.heap.size, 0, none⟩, t.reads.length, some ⟨V1.heap.size, 0, none⟩, t.sets.length⟩) (t := t) ((bW.setCell (p := ⟨w.heap.size + 1 + 1, 5, none⟩) (by dsimp only; omega) _).setCell (p := ⟨w.heap.size + 1 + 1, 6, none⟩) (by dsimp only; omega) _) (by omega)
set_option maxHeartbeats 2000000 in
theorem eqTx_same (w : World) (v v' : TV) (t : T7) (hl : TL t) (h1 : SlT w v t) (h2 : SlT w v' t) : Calls Tryz.prog 97 #[v.val t, v'.val t] w fun e w' => e = .returned (.bool true) ∧ Below w.heap.size w w' := by
  obtain ⟨ar, cr, ah, ch⟩ := v
  obtain ⟨ar', cr', ah', ch'⟩ := v'
  simp only [TV.val]
  obtain ⟨U, hU⟩ : ∃ U, U = ((w.alloc (.cells #[.int .i64 t.id, .int .i64 t.home, .int .i64 t.phase, .int .i64 t.count, .slice ar t.reads.length cr, .slice ah t.sets.length ch, .int .i64 t.stamp] 56)).alloc (.cells #[.int .i64 t.id, .int .i64 t.home, .int .i64 t.phase, .int .i64 t.count, .slice ar' t.reads.length cr', .slice ah' t.sets.length ch', .int .i64 t.stamp] 56)) := ⟨_, rfl⟩
  have z1 : (w.alloc (.cells #[.int .i64 t.id, .int .i64 t.home, .int .i64 t.phase, .int .i64 t.count, .slice ar t.reads.length cr, .slice ah t.sets.length ch, .int .i64 t.stamp] 56)).heap.size = w.heap.size + 1 := by simp
  have xB : BT U (w.heap.size + 1) ⟨ar', cr', ah', ch'⟩ t := by rw [hU, ← z1]; exact BT.box _ ⟨ar', cr', ah', ch'⟩ t _
  have xA : BT U w.heap.size ⟨ar, cr, ah, ch⟩ t := by rw [hU]; exact (BT.box w ⟨ar, cr, ah, ch⟩ t _).later ((Below.refl _ _).alloc (Nat.le_refl _) _)
  have b0 : Below w.heap.size w U := by rw [hU]; exact ((Below.refl _ _).alloc (Nat.le_refl _) _).alloc (by simp) _
  have c1 := eqNoteS_any U ar ar' t.reads.length cr cr' t.reads hl.r (h1.later b0).r (h2.later b0).r
  have H : Hid (BT U w.heap.size ⟨ar, cr, ah, ch⟩ t ∧ BT U (w.heap.size + 1) ⟨ar', cr', ah', ch'⟩ t ∧ Below w.heap.size w U ∧ SlT w ⟨ar, cr, ah, ch⟩ t ∧ SlT w ⟨ar', cr', ah', ch'⟩ t ∧ TL t) := ⟨xA, xB, b0, h1, h2, hl⟩
  have q0 : (t.id != t.id) = false := by simp
  have q1 : (t.home != t.home) = false := by simp
  have q2 : (t.phase != t.phase) = false := by simp
  have q3 : (t.count != t.count) = false := by simp
  have q6 : (t.stamp != t.stamp) = false := by simp
  clear z1 xA xB b0 h1 h2 hl
  go_enter Tryz.func97, Tryz.ntmps97
  go_wp2_with fail
  rw [← hU]
  clear hU
  refine c1.mono ?_
  clear c1 q0 q1 q2 q3
  rintro e w1 ⟨rfl, b1⟩
  obtain ⟨xA, xB, b0, h1, h2, hl⟩ := H.out
  have bw : Below w.heap.size w w1 := b0.trans (b1.mono b0.size)
  have a5 := (xA.later b1).c5
  have e5 := (xB.later b1).c5
  have c2 := eqSetS_any w1 ah ah' t.sets.length ch ch' t.sets hl.s (h1.later bw).s (h2.later bw).s
  have H1 : Hid (BT w1 w.heap.size ⟨ar, cr, ah, ch⟩ t ∧ BT w1 (w.heap.size + 1) ⟨ar', cr', ah', ch'⟩ t ∧ Below w.heap.size w w1) := ⟨xA.later b1, xB.later b1, bw⟩
  clear xA xB b0 h1 h2 hl b1 bw H
  go_wp2_with fail
  refine c2.mono ?_
  clear c2 a5 e5
  rintro e w2 ⟨rfl, b2⟩
  have a6 := (H1.out.1.later b2).c6
  have e6 := (H1.out.2.1.later b2).c6
  have KE : Hid (Below w.heap.size w w2) := H1.out.2.2.trans (b2.mono H1.out.2.2.size)
  clear b2 H1
  go_wp2
  go_ret
  exact ⟨rfl, KE.out⟩
def mkT (t : T7) (k : Int) : T7 := ⟨t.id, t.home, t.phase, t.count, mkNotes k t.reads.length, mkSets (k + 5 * (t.reads.length : Int)) t.sets.length, t.stamp⟩
def endT (t : T7) (k : Int) : Int := k + 5 * (t.reads.length : Int) + 5 * (t.sets.length : Int)
theorem markNo (w : World) (P : Nat → Prop) (a : Option Addr) (cap : Nat) (xs : List N5) (k : Int) (hk : 0 ≤ k) (hk' : k ≤ 1000000000) (hn : xs.length ≤ 1048576) (h : OwnNo w P a xs) :
    Calls Tryz.prog 101 #[.slice a xs.length cap, .int .i64 k] w fun e w' => e = .returned (.int .i64 (k + 5 * (xs.length : Int))) ∧ KeptP P w w' ∧ OwnNo w' P a (mkNotes k xs.length) := by
  rcases h with rfl | ⟨b, rfl, hp, hb, hx, hr⟩
  · refine (markNoteS_nil w a cap k).mono ?_
    rintro e w' ⟨rfl, rfl⟩
    exact ⟨by simp, KeptP.refl _ _, .inl rfl⟩
  · refine (markNoteS_k w b xs.length cap k hn hk hk' hr).mono ?_
    rintro e w' ⟨rfl, ho, hx', hr'⟩
    exact ⟨rfl, KeptP.of_only ho hp, .inr ⟨b, rfl, hp, by rw [ho.size]; exact hb, hx', by rw [mkNotes_len]; exact hr'⟩⟩
theorem markSe (w : World) (P : Nat → Prop) (a : Option Addr) (cap : Nat) (xs : List S5) (k : Int) (hk : 0 ≤ k) (hk' : k ≤ 1000000000) (hn : xs.length ≤ 1048576) (h : OwnSe w P a xs) :
    Calls Tryz.prog 102 #[.slice a xs.length cap, .int .i64 k] w fun e w' => e = .returned (.int .i64 (k + 5 * (xs.length : Int))) ∧ KeptP P w w' ∧ OwnSe w' P a (mkSets k xs.length) := by
  rcases h with rfl | ⟨b, rfl, hp, hb, hx, hr⟩
  · refine (markSetS_nil w a cap k).mono ?_
    rintro e w' ⟨rfl, rfl⟩
    exact ⟨by simp, KeptP.refl _ _, .inl rfl⟩
  · refine (markSetS_k w b xs.length cap k hn hk hk' hr).mono ?_
    rintro e w' ⟨rfl, ho, hx', hr'⟩
    exact ⟨rfl, KeptP.of_only ho hp, .inr ⟨b, rfl, hp, by rw [ho.size]; exact hb, hx', by rw [mkSets_len]; exact hr'⟩⟩
set_option maxHeartbeats 1000000 in
theorem szTx_l (w : World) (v : TV) (t : T7) (l0 : Nat) (hl0 : l0 ≤ 1048576) (hl : TL t) : Calls Tryz.prog 77 #[v.val t, .int .i64 (l0 : Int)] w fun e w' => e = .returned (.int .i64 (leftR l0 (szT t))) ∧ Below w.heap.size w w' := by
  obtain ⟨ar, cr, ah, ch⟩ := v
  simp only [TV.val]
  have b0 : Below w.heap.size w (w.alloc (.cells #[.int .i64 t.id, .int .i64 t.home, .int .i64 t.phase, .int .i64 t.count, .slice ar t.reads.length cr, .slice ah t.sets.length ch, .int .i64 t.stamp] 124)) := (Below.refl _ _).alloc (Nat.le_refl _) _
  have B0 := hidOf b0
  have h1 := szNoteS_l (w.alloc (.cells #[.int .i64 t.id, .int .i64 t.home, .int .i64 t.phase, .int .i64 t.count, .slice ar t.reads.length cr, .slice ah t.sets.length ch, .int .i64 t.stamp] 124)) ar t.reads.length cr l0 hl.r hl0
  have h2 := fun W l => szSetS_l W ah t.sets.length ch l hl.s
  have HS : Hid (szT t = t.reads.length + t.sets.length) := rfl
  clear b0 hl
  by_cases g1 : t.reads.length ≤ l0
  · rw [leftR_yes g1] at h1
    have d1 : decide (((l0 - t.reads.length : Nat) : Int) < 0) = false := by simp
    have h3 := h2 (w.alloc (.cells #[.int .i64 t.id, .int .i64 t.home, .int .i64 t.phase, .int .i64 t.count, .slice ar t.reads.length cr, .slice ah t.sets.length ch, .int .i64 t.stamp] 124)) (l0 - t.reads.length) (by omega)
    by_cases g2 : t.sets.length ≤ l0 - t.reads.length
    · rw [leftR_yes g2] at h3
      have d2 : decide (((l0 - t.reads.length - t.sets.length : Nat) : Int) < 0) = false := by simp
      have KE : Hid (leftR l0 (szT t) = ((l0 - t.reads.length - t.sets.length : Nat) : Int)) := by unfold Hid; rw [leftR_yes (by rw [HS.out]; omega), HS.out]; omega
      clear g1 g2
      generalize l0 - t.reads.length - t.sets.length = l2 at *
      generalize l0 - t.reads.length = l1 at *
      go_enter Tryz.func77, Tryz.ntmps77
      go_wp2_with fail
      refine h1.mono ?_
      rintro e w1 ⟨rfl, rfl⟩
      go_wp2_with fail
      refine h3.mono ?_
      rintro e w2 ⟨rfl, rfl⟩
      go_wp2
      go_ret
      exact ⟨by rw [KE.out]; rfl, B0.out⟩
    · rw [leftR_no g2] at h3
      have KE : Hid (leftR l0 (szT t) = -1) := by unfold Hid; rw [leftR_no (by rw [HS.out]; omega)]
      clear g1 g2
      generalize l0 - t.reads.length = l1 at *
      go_enter Tryz.func77, Tryz.ntmps77
      go_wp2_with fail
      refine h1.mono ?_
      rintro e w1 ⟨rfl, rfl⟩
      go_wp2_with fail
      refine h3.mono ?_
      rintro e w2 ⟨rfl, rfl⟩
      go_wp2
      go_ret
      exact ⟨by rw [KE.out]; rfl, B0.out⟩
  · rw [leftR_no g1] at h1
    have KE : Hid (leftR l0 (szT t) = -1) := by unfold Hid; rw [leftR_no (by rw [HS.out]; omega)]
    clear g1
    go_enter Tryz.func77, Tryz.ntmps77
    go_wp2_with fail
    refine h1.mono ?_
    rintro e w1 ⟨rfl, rfl⟩
    go_wp2
    go_ret
    exact ⟨by rw [KE.out]; rfl, B0.out⟩
end Go.Proofs.YtnhjgomfkfehgaaGreatDoor.tx
namespace Go.Proofs.YtnhjgomfkfehgaaGreatDoor
open Go.RowKit
def KT.Ow (w : World) (B : Nat) (a : Option Addr) (b : Nat) (c : Option Addr) (d : Nat) (t : tx.T7) (P : Nat → Prop) : Prop := ∃ PR PS, tx.OT w B ⟨a, b, c, d⟩ t PR PS ∧ (∀ q, tx.OfT PR PS q → P q) ∧ (∀ q, P q → B ≤ q ∧ q < w.heap.size)
theorem KT.Ow.of {w : World} {B : Nat} {a : Option Addr} {b : Nat} {c : Option Addr} {d : Nat} {t : tx.T7} {P : Nat → Prop} (h : KT.Ow w B a b c d t P) {q : Nat} (hq : P q) : B ≤ q ∧ q < w.heap.size := by obtain ⟨_, _, _, _, h3⟩ := h; exact h3 q hq
theorem KT.Ow.sl {w : World} {B : Nat} {a : Option Addr} {b : Nat} {c : Option Addr} {d : Nat} {t : tx.T7} {P : Nat → Prop} (h : KT.Ow w B a b c d t P) : tx.SlT w ⟨a, b, c, d⟩ t := by obtain ⟨_, _, h1, _, _⟩ := h; exact h1.sl
theorem KT.Ow.keep {w : World} {B : Nat} {a : Option Addr} {b : Nat} {c : Option Addr} {d : Nat} {t : tx.T7} {P : Nat → Prop} {w' : World} (h : KT.Ow w B a b c d t P) (hs : w.heap.size ≤ w'.heap.size) (hk : ∀ q, P q → w'.heap[q]? = w.heap[q]?) : KT.Ow w' B a b c d t P := by
  obtain ⟨PR, PS, h1, h2, h3⟩ := h
  exact ⟨PR, PS, h1.keep hs (fun q _ hq => hk q (h2 q hq)), h2, fun q hq => ⟨(h3 q hq).1, Nat.lt_of_lt_of_le (h3 q hq).2 hs⟩⟩
theorem KT.Ow.later {w : World} {B : Nat} {a : Option Addr} {b : Nat} {c : Option Addr} {d : Nat} {t : tx.T7} {P : Nat → Prop} {w' : World} (h : KT.Ow w B a b c d t P) (hb : Below w.heap.size w w') : KT.Ow w' B a b c d t P := h.keep hb.size (fun q hq => hb.block q (h.of hq).2)
theorem KT.Ow.low {w : World} {B : Nat} {a : Option Addr} {b : Nat} {c : Option Addr} {d : Nat} {t : tx.T7} {P : Nat → Prop} {B' : Nat} (h : KT.Ow w B a b c d t P) (hb : B' ≤ B) : KT.Ow w B' a b c d t P := by
  obtain ⟨PR, PS, h1, h2, h3⟩ := h
  exact ⟨PR, PS, h1.mono hb, h2, fun q hq => ⟨Nat.le_trans hb (h3 q hq).1, (h3 q hq).2⟩⟩
theorem KT.ow {w : World} {B : Nat} {a : Option Addr} {b : Nat} {c : Option Addr} {d : Nat} {t : tx.T7} {PR PS : Nat → Prop} (h : tx.OT w B ⟨a, b, c, d⟩ t PR PS) : KT.Ow w B a b c d t (tx.OfT PR PS) := ⟨PR, PS, h, fun _ hq => hq, fun _ hq => h.of hq⟩
def KT.S (t : tx.T7) : Prop := t.reads.length ≤ 1048576 ∧ t.sets.length ≤ 1048576
theorem KT.to (X : World) (a : Option Addr) (b : Nat) (c : Option Addr) (d : Nat) (t : tx.T7) (ht : KT.S t) (h : tx.SlT X ⟨a, b, c, d⟩ t) : Calls Tryz.prog 87 #[.agg #[.int .i64 t.id, .int .i64 t.home, .int .i64 t.phase, .int .i64 t.count, .slice a t.reads.length b, .slice c t.sets.length d, .int .i64 t.stamp]] X fun e w' =>
    ∃ (a : Option Addr) (b : Nat) (c : Option Addr) (d : Nat) (P : Nat → Prop), e = .returned (.agg #[.int .i64 t.id, .int .i64 t.home, .int .i64 t.phase, .int .i64 t.count, .slice a t.reads.length b, .slice c t.sets.length d, .int .i64 t.stamp]) ∧ KT.Ow w' X.heap.size a b c d t P ∧ Below X.heap.size X w' := by
  have hh := tx.toTx_anyC X ⟨a, b, c, d⟩ t ht.1 ht.2 h
  simp only [tx.TV.val] at hh
  refine hh.mono ?_
  rintro e w' ⟨a, b, c, d, PR, PS, rfl, o, bl, _, _⟩
  exact ⟨a, b, c, d, _, rfl, KT.ow o, bl⟩
theorem KT.S.tl {t : tx.T7} (h : KT.S t) : tx.TL t := ⟨by have := h.1; unfold maxLen; omega, by have := h.2; unfold maxLen; omega⟩
theorem KT.eq (X : World) (a : Option Addr) (b : Nat) (c : Option Addr) (d : Nat) (a' : Option Addr) (b' : Nat) (c' : Option Addr) (d' : Nat) (t : tx.T7) (ht : KT.S t) (h1 : tx.SlT X ⟨a, b, c, d⟩ t) (h2 : tx.SlT X ⟨a', b', c', d'⟩ t) : Calls Tryz.prog 97 #[.agg #[.int .i64 t.id, .int .i64 t.home, .int .i64 t.phase, .int .i64 t.count, .slice a t.reads.length b, .slice c t.sets.length d, .int .i64 t.stamp], .agg #[.int .i64 t.id, .int .i64 t.home, .int .i64 t.phase, .int .i64 t.count, .slice a' t.reads.length b', .slice c' t.sets.length d', .int .i64 t.stamp]] X fun e w' => e = .returned (.bool true) ∧ Below X.heap.size X w' := by
  have hh := tx.eqTx_same X ⟨a, b, c, d⟩ ⟨a', b', c', d'⟩ t ht.tl h1 h2
  simp only [tx.TV.val] at hh
  exact hh
theorem KT.szl (X : World) (a : Option Addr) (b : Nat) (c : Option Addr) (d : Nat) (t : tx.T7) (l : Nat) (hl0 : l ≤ 1048576) (hl : tx.TL t) : Calls Tryz.prog 77 #[.agg #[.int .i64 t.id, .int .i64 t.home, .int .i64 t.phase, .int .i64 t.count, .slice a t.reads.length b, .slice c t.sets.length d, .int .i64 t.stamp], .int .i64 (l : Int)] X fun e w' => e = .returned (.int .i64 (leftR l (tx.szT t))) ∧ Below X.heap.size X w' := by
  have hh := tx.szTx_l X ⟨a, b, c, d⟩ t l hl0 hl
  simp only [tx.TV.val] at hh
  exact hh
def KTk : Kd tx.T7 tx.TV where
  n := 7
  cells v t := [.int .i64 t.id, .int .i64 t.home, .int .i64 t.phase, .int .i64 t.count, .slice v.ar t.reads.length v.cr, .slice v.ah t.sets.length v.ch, .int .i64 t.stamp]
  len := fun _ _ => rfl
  Rd := tx.SlT
  Ow w B v t P := KT.Ow w B v.ar v.cr v.ah v.ch t P
  later := fun h b => h.later b
  sl := fun h => h.sl
  of := fun h hq => h.of hq
  keep := fun h hs hk => h.keep hs hk
  low := fun h hb => h.low hb
end Go.Proofs.YtnhjgomfkfehgaaGreatDoor
namespace Go.Proofs.YtnhjgomfkfehgaaGreatDoor
open Go.RowKit
open Go.Sort (grow)
theorem info_KTS : (Tryz.prog.info? 56).map (fun i => (i.zero, i.size, i.bytes)) = some (some (.agg #[.int .i64 0, .int .i64 0, .int .i64 0, .int .i64 0, .slice none 0 0, .slice none 0 0, .int .i64 0]), 7, 88) := by kernel_rfl
theorem make_KTS (n : Nat) (hn : n ≤ 1048576) (w : World) : (Instr.makeSlice 30 (.int .i64 (n : Int)) (.int .i64 (n : Int))).run Tryz.prog w = .ok (.slice (some ⟨w.heap.size, 0, none⟩) n n) (w.alloc (.cells (madeCells #[.int .i64 0, .int .i64 0, .int .i64 0, .int .i64 0, .slice none 0 0, .slice none 0 0, .int .i64 0] (n * 7)) 56)) := by
  obtain ⟨i, hi, hzz⟩ := Option.map_eq_some_iff.1 info_KTS
  simp only [Prod.mk.injEq] at hzz
  obtain ⟨hz, hs, hb⟩ := hzz
  have := run_make (P := Tryz.prog) w 30 56 i _ Tryz.underlying30 hi hz .i64 .i64 (n : Int) (n : Int) (by omega) (by omega) (by rw [hb]; omega) (by omega)
  rw [hs] at this
  simpa [Value.cells] using this
set_option maxRecDepth 100000 in
set_option maxHeartbeats 4000000 in
theorem KTS.to (w : World) (a : Option Addr) (cap : Nat) (xs : List tx.T7) (hn : xs.length ≤ 1048576) (ht : ∀ d ∈ xs, KT.S d) (hs : KTk.RdS w a xs) : Calls Tryz.prog 37 #[.slice a xs.length cap] w fun e w' =>
    ∃ P, e = .returned (.slice (some ⟨w.heap.size, 0, none⟩) xs.length xs.length) ∧ KTk.OwS w' w.heap.size (some ⟨w.heap.size, 0, none⟩) xs P ∧ Below w.heap.size w w' := by
  have hmk := make_KTS xs.length hn
  go_enter Tryz.func37, Tryz.ntmps37
  go_wp2
  go_loopw [4] (fun i wr => ∃ (j : Nat) (g : Nat → Nat → Prop), j ≤ xs.length ∧ i = .int .i64 j ∧ Below w.heap.size w wr ∧ w.heap.size < wr.heap.size ∧ KTk.Part wr w.heap.size w.heap.size xs.length (xs.take j) g) (fun i _ => xs.length - (intOf i).toNat)
  case atStart => exact ⟨0, fun _ _ => False, Nat.zero_le _, rfl, (Below.refl _ _).alloc (Nat.le_refl _) _, by simp, by rw [List.take_zero]; exact Kd.Part.nil _ _ (room_made _ _ _ _)⟩
  case round =>
    obtain ⟨j, g, hj, rfl, hbl, hsz, hpt⟩ := hrel
    by_cases hlt : j < xs.length
    · obtain ⟨d, hd⟩ : ∃ d, xs[j]? = some d := ⟨_, List.getElem?_eq_getElem hlt⟩
      rcases hs with hs | ⟨b, off, rfl, hb, h1⟩
      · rw [hs] at hlt; simp at hlt
      obtain ⟨⟨c0, c1, c2, c3⟩, hat, hrd⟩ := h1 j d hd
      have e0 : wr.cell? ⟨b, off + j * 7, none⟩ = some (.int .i64 d.id) := (hbl.cell (p := ⟨b, off + j * 7, none⟩) hb).trans (hat 0 _ rfl)
      have e1 : wr.cell? ⟨b, off + j * 7 + 1, none⟩ = some (.int .i64 d.home) := (hbl.cell (p := ⟨b, off + j * 7 + 1, none⟩) hb).trans (hat 1 _ rfl)
      have e2 : wr.cell? ⟨b, off + j * 7 + 2, none⟩ = some (.int .i64 d.phase) := (hbl.cell (p := ⟨b, off + j * 7 + 2, none⟩) hb).trans (hat 2 _ rfl)
      have e3 : wr.cell? ⟨b, off + j * 7 + 3, none⟩ = some (.int .i64 d.count) := (hbl.cell (p := ⟨b, off + j * 7 + 3, none⟩) hb).trans (hat 3 _ rfl)
      have e4 : wr.cell? ⟨b, off + j * 7 + 4, none⟩ = some (.slice c0 d.reads.length c1) := (hbl.cell (p := ⟨b, off + j * 7 + 4, none⟩) hb).trans (hat 4 _ rfl)
      have e5 : wr.cell? ⟨b, off + j * 7 + 5, none⟩ = some (.slice c2 d.sets.length c3) := (hbl.cell (p := ⟨b, off + j * 7 + 5, none⟩) hb).trans (hat 5 _ rfl)
      have e6 : wr.cell? ⟨b, off + j * 7 + 6, none⟩ = some (.int .i64 d.stamp) := (hbl.cell (p := ⟨b, off + j * 7 + 6, none⟩) hb).trans (hat 6 _ rfl)
      have hcl := KT.to wr c0 c1 c2 c3 d (ht d (List.mem_of_getElem? hd)) (KTk.later hrd hbl)
      have KH : Hid (KTk.Part wr w.heap.size w.heap.size xs.length (xs.take j) g ∧ Below w.heap.size w wr ∧ w.heap.size < wr.heap.size ∧ xs.take (j + 1) = xs.take j ++ [d] ∧ (xs.take j).length = j) := ⟨hpt, hbl, hsz, by rw [List.take_add_one, hd]; rfl, by rw [List.length_take]; omega⟩
      have jn : (j : Int) < (xs.length : Int) := by omega
      clear hpt hbl hmk h1 ht hat hrd hd
      go_wp2_with fail
      refine hcl.mono ?_
      clear hcl e0 e1 e2 e3 e4 e5 e6
      rintro e w1 ⟨u0, u1, u2, u3, P, rfl, ho, b1⟩
      have hp1 := KH.out.1.later b1 KH.out.2.2.1
      have hrm := hp1.rm
      have hjm : j * 7 + 7 ≤ xs.length * 7 := by omega
      obtain ⟨z0, d0, f0⟩ : ∃ v, w1.cell? ⟨w.heap.size, j * 7, none⟩ = some v ∧ w1.frozen? ⟨w.heap.size, j * 7, none⟩ = false := hrm (j * 7 + 0) (show _ < xs.length * 7 by omega)
      obtain ⟨z1, d1, f1⟩ : ∃ v, w1.cell? ⟨w.heap.size, j * 7 + 1, none⟩ = some v ∧ w1.frozen? ⟨w.heap.size, j * 7 + 1, none⟩ = false := hrm (j * 7 + 1) (show _ < xs.length * 7 by omega)
      obtain ⟨z2, d2, f2⟩ : ∃ v, w1.cell? ⟨w.heap.size, j * 7 + 2, none⟩ = some v ∧ w1.frozen? ⟨w.heap.size, j * 7 + 2, none⟩ = false := hrm (j * 7 + 2) (show _ < xs.length * 7 by omega)
      obtain ⟨z3, d3, f3⟩ : ∃ v, w1.cell? ⟨w.heap.size, j * 7 + 3, none⟩ = some v ∧ w1.frozen? ⟨w.heap.size, j * 7 + 3, none⟩ = false := hrm (j * 7 + 3) (show _ < xs.length * 7 by omega)
      obtain ⟨z4, d4, f4⟩ : ∃ v, w1.cell? ⟨w.heap.size, j * 7 + 4, none⟩ = some v ∧ w1.frozen? ⟨w.heap.size, j * 7 + 4, none⟩ = false := hrm (j * 7 + 4) (show _ < xs.length * 7 by omega)
      obtain ⟨z5, d5, f5⟩ : ∃ v, w1.cell? ⟨w.heap.size, j * 7 + 5, none⟩ = some v ∧ w1.frozen? ⟨w.heap.size, j * 7 + 5, none⟩ = false := hrm (j * 7 + 5) (show _ < xs.length * 7 by omega)
      obtain ⟨z6, d6, f6⟩ : ∃ v, w1.cell? ⟨w.heap.size, j * 7 + 6, none⟩ = some v ∧ w1.frozen? ⟨w.heap.size, j * 7 + 6, none⟩ = false := hrm (j * 7 + 6) (show _ < xs.length * 7 by omega)
      have K1 : Hid (KTk.Part w1 w.heap.size w.heap.size xs.length (xs.take j) g ∧ KTk.Ow w1 wr.heap.size ⟨u0, u1, u2, u3⟩ d P ∧ Below wr.heap.size wr w1) := ⟨hp1, ho, b1⟩
      clear hp1 ho b1 hrm hjm
      go_wp2
      obtain ⟨k1, k2, k3, k4, k5⟩ := KH.out
      obtain ⟨p1, p2, p3⟩ := K1.out
      have hpu := p1.push (by omega) ⟨u0, u1, u2, u3⟩ d P (KTk.low p2 (Nat.le_of_lt k3)) (fun q hq => by have := (KTk.of p2 hq).1; omega) (fun i q hi hq hq' => by have := (k1.gq hi hq).2; have := (KTk.of p2 hq').1; omega)
      rw [k5, ← k4] at hpu
      have hbe : Below w.heap.size w (putB w1 w.heap.size (j * 7) [.int .i64 d.id, .int .i64 d.home, .int .i64 d.phase, .int .i64 d.count, .slice u0 d.reads.length u1, .slice u2 d.sets.length u3, .int .i64 d.stamp]) := putB_below (Nat.le_refl _) _ _ _ (k2.trans (p3.mono k2.size))
      have hsz' : w.heap.size < (putB w1 w.heap.size (j * 7) [.int .i64 d.id, .int .i64 d.home, .int .i64 d.phase, .int .i64 d.count, .slice u0 d.reads.length u1, .slice u2 d.sets.length u3, .int .i64 d.stamp]).heap.size := by rw [putB_size]; exact Nat.lt_of_lt_of_le k3 p3.size
      exact ⟨⟨j + 1, _, by omega, by simp, hbe, hsz', hpu⟩, by simp [intOf]; omega⟩
    · obtain rfl : j = xs.length := by omega
      have hd : decide ((xs.length : Int) < (xs.length : Int)) = false := by simp
      rw [List.take_length] at hpt
      have KH : Hid (KTk.Part wr w.heap.size w.heap.size xs.length xs g ∧ Below w.heap.size w wr ∧ w.heap.size < wr.heap.size) := ⟨hpt, hbl, hsz⟩
      clear hpt hbl hs hmk ht
      go_wp2
      go_ret
      exact ⟨_, rfl, KH.out.1.own (Nat.le_refl _) KH.out.2.2, KH.out.2.1⟩
set_option maxRecDepth 100000 in
set_option maxHeartbeats 4000000 in
theorem KTS.eq (w : World) (a a' : Option Addr) (cap cap' : Nat) (xs : List tx.T7) (hn : xs.length ≤ 1048576) (ht : ∀ d ∈ xs, KT.S d) (h1 : KTk.RdS w a xs) (h2 : KTk.RdS w a' xs) : Calls Tryz.prog 43 #[.slice a xs.length cap, .slice a' xs.length cap'] w fun e w' => e = .returned (.bool true) ∧ Below w.heap.size w w' := by
  go_enter Tryz.func43, Tryz.ntmps43
  go_wp2
  go_loopw [5] (fun i wr => ∃ j : Nat, j ≤ xs.length ∧ i = .int .i64 j ∧ Below w.heap.size w wr) (fun i _ => xs.length - (intOf i).toNat)
  case atStart => exact ⟨0, Nat.zero_le _, rfl, Below.refl _ _⟩
  case round =>
    obtain ⟨j, hj, rfl, hbl⟩ := hrel
    by_cases hlt : j < xs.length
    · obtain ⟨d, hd⟩ : ∃ d, xs[j]? = some d := ⟨_, List.getElem?_eq_getElem hlt⟩
      rcases h1 with h1 | ⟨b, off, rfl, hb, h1⟩
      · rw [h1] at hlt; simp at hlt
      · rcases h2 with h2 | ⟨b', off', rfl, hb', h2⟩
        · rw [h2] at hlt; simp at hlt
        · obtain ⟨⟨c0, c1, c2, c3⟩, hat, hrd⟩ := h1 j d hd
          obtain ⟨⟨b0, b1, b2, b3⟩, hat', hrd'⟩ := h2 j d hd
          have x0 : ∀ dd os, (grow (redrawn wr dd) os).cell? ⟨b, off + j * 7, none⟩ = some (.int .i64 d.id) := fun dd os => ((below_regrown wr dd os).cell (p := ⟨b, off + j * 7, none⟩) (Nat.lt_of_lt_of_le hb hbl.size)).trans ((hbl.cell (p := ⟨b, off + j * 7, none⟩) hb).trans (hat 0 _ rfl))
          have x1 : ∀ dd os, (grow (redrawn wr dd) os).cell? ⟨b, off + j * 7 + 1, none⟩ = some (.int .i64 d.home) := fun dd os => ((below_regrown wr dd os).cell (p := ⟨b, off + j * 7 + 1, none⟩) (Nat.lt_of_lt_of_le hb hbl.size)).trans ((hbl.cell (p := ⟨b, off + j * 7 + 1, none⟩) hb).trans (hat 1 _ rfl))
          have x2 : ∀ dd os, (grow (redrawn wr dd) os).cell? ⟨b, off + j * 7 + 2, none⟩ = some (.int .i64 d.phase) := fun dd os => ((below_regrown wr dd os).cell (p := ⟨b, off + j * 7 + 2, none⟩) (Nat.lt_of_lt_of_le hb hbl.size)).trans ((hbl.cell (p := ⟨b, off + j * 7 + 2, none⟩) hb).trans (hat 2 _ rfl))
          have x3 : ∀ dd os, (grow (redrawn wr dd) os).cell? ⟨b, off + j * 7 + 3, none⟩ = some (.int .i64 d.count) := fun dd os => ((below_regrown wr dd os).cell (p := ⟨b, off + j * 7 + 3, none⟩) (Nat.lt_of_lt_of_le hb hbl.size)).trans ((hbl.cell (p := ⟨b, off + j * 7 + 3, none⟩) hb).trans (hat 3 _ rfl))
          have x4 : ∀ dd os, (grow (redrawn wr dd) os).cell? ⟨b, off + j * 7 + 4, none⟩ = some (.slice c0 d.reads.length c1) := fun dd os => ((below_regrown wr dd os).cell (p := ⟨b, off + j * 7 + 4, none⟩) (Nat.lt_of_lt_of_le hb hbl.size)).trans ((hbl.cell (p := ⟨b, off + j * 7 + 4, none⟩) hb).trans (hat 4 _ rfl))
          have x5 : ∀ dd os, (grow (redrawn wr dd) os).cell? ⟨b, off + j * 7 + 5, none⟩ = some (.slice c2 d.sets.length c3) := fun dd os => ((below_regrown wr dd os).cell (p := ⟨b, off + j * 7 + 5, none⟩) (Nat.lt_of_lt_of_le hb hbl.size)).trans ((hbl.cell (p := ⟨b, off + j * 7 + 5, none⟩) hb).trans (hat 5 _ rfl))
          have x6 : ∀ dd os, (grow (redrawn wr dd) os).cell? ⟨b, off + j * 7 + 6, none⟩ = some (.int .i64 d.stamp) := fun dd os => ((below_regrown wr dd os).cell (p := ⟨b, off + j * 7 + 6, none⟩) (Nat.lt_of_lt_of_le hb hbl.size)).trans ((hbl.cell (p := ⟨b, off + j * 7 + 6, none⟩) hb).trans (hat 6 _ rfl))
          have y0 : ∀ dd os, (grow (redrawn wr dd) os).cell? ⟨b', off' + j * 7, none⟩ = some (.int .i64 d.id) := fun dd os => ((below_regrown wr dd os).cell (p := ⟨b', off' + j * 7, none⟩) (Nat.lt_of_lt_of_le hb' hbl.size)).trans ((hbl.cell (p := ⟨b', off' + j * 7, none⟩) hb').trans (hat' 0 _ rfl))
          have y1 : ∀ dd os, (grow (redrawn wr dd) os).cell? ⟨b', off' + j * 7 + 1, none⟩ = some (.int .i64 d.home) := fun dd os => ((below_regrown wr dd os).cell (p := ⟨b', off' + j * 7 + 1, none⟩) (Nat.lt_of_lt_of_le hb' hbl.size)).trans ((hbl.cell (p := ⟨b', off' + j * 7 + 1, none⟩) hb').trans (hat' 1 _ rfl))
          have y2 : ∀ dd os, (grow (redrawn wr dd) os).cell? ⟨b', off' + j * 7 + 2, none⟩ = some (.int .i64 d.phase) := fun dd os => ((below_regrown wr dd os).cell (p := ⟨b', off' + j * 7 + 2, none⟩) (Nat.lt_of_lt_of_le hb' hbl.size)).trans ((hbl.cell (p := ⟨b', off' + j * 7 + 2, none⟩) hb').trans (hat' 2 _ rfl))
          have y3 : ∀ dd os, (grow (redrawn wr dd) os).cell? ⟨b', off' + j * 7 + 3, none⟩ = some (.int .i64 d.count) := fun dd os => ((below_regrown wr dd os).cell (p := ⟨b', off' + j * 7 + 3, none⟩) (Nat.lt_of_lt_of_le hb' hbl.size)).trans ((hbl.cell (p := ⟨b', off' + j * 7 + 3, none⟩) hb').trans (hat' 3 _ rfl))
          have y4 : ∀ dd os, (grow (redrawn wr dd) os).cell? ⟨b', off' + j * 7 + 4, none⟩ = some (.slice b0 d.reads.length b1) := fun dd os => ((below_regrown wr dd os).cell (p := ⟨b', off' + j * 7 + 4, none⟩) (Nat.lt_of_lt_of_le hb' hbl.size)).trans ((hbl.cell (p := ⟨b', off' + j * 7 + 4, none⟩) hb').trans (hat' 4 _ rfl))
          have y5 : ∀ dd os, (grow (redrawn wr dd) os).cell? ⟨b', off' + j * 7 + 5, none⟩ = some (.slice b2 d.sets.length b3) := fun dd os => ((below_regrown wr dd os).cell (p := ⟨b', off' + j * 7 + 5, none⟩) (Nat.lt_of_lt_of_le hb' hbl.size)).trans ((hbl.cell (p := ⟨b', off' + j * 7 + 5, none⟩) hb').trans (hat' 5 _ rfl))
          have y6 : ∀ dd os, (grow (redrawn wr dd) os).cell? ⟨b', off' + j * 7 + 6, none⟩ = some (.int .i64 d.stamp) := fun dd os => ((below_regrown wr dd os).cell (p := ⟨b', off' + j * 7 + 6, none⟩) (Nat.lt_of_lt_of_le hb' hbl.size)).trans ((hbl.cell (p := ⟨b', off' + j * 7 + 6, none⟩) hb').trans (hat' 6 _ rfl))
          have cQ : ∀ dd os, Calls Tryz.prog 97 #[.agg #[.int .i64 d.id, .int .i64 d.home, .int .i64 d.phase, .int .i64 d.count, .slice c0 d.reads.length c1, .slice c2 d.sets.length c3, .int .i64 d.stamp], .agg #[.int .i64 d.id, .int .i64 d.home, .int .i64 d.phase, .int .i64 d.count, .slice b0 d.reads.length b1, .slice b2 d.sets.length b3, .int .i64 d.stamp]] (grow (redrawn wr dd) os) fun e w'' => e = .returned (.bool true) ∧ ∃ p : Regrown, w'' = grow (redrawn wr p.d) p.os := fun dd os => Calls.regrown_of (KT.eq _ c0 c1 c2 c3 b0 b1 b2 b3 d (ht d (List.mem_of_getElem? hd)) (KTk.later hrd (hbl.trans ((below_regrown wr dd os).mono hbl.size))) (KTk.later hrd' (hbl.trans ((below_regrown wr dd os).mono hbl.size))))
          have K : Hid (Below w.heap.size w wr) := hbl
          have jn : (j : Int) < (xs.length : Int) := by omega
          clear hat hat' hrd hrd' hbl h1 h2 ht hd
          go_wp2_with fail
          refine wp_region_quiet_below (by kernel_rfl) (by kernel_rfl) ?_
          repeat (go_big_quiet_step (exact cQ _ _))
          refine wpQuiet_nil ?_
          intro _ hw'
          obtain ⟨⟨dq, osq⟩, hw''⟩ := hw'
          subst hw''
          have bq := below_regrown wr dq osq
          go_wp2
          exact ⟨⟨j + 1, by omega, by simp, K.out.trans (bq.mono K.out.size)⟩, by simp [intOf]; omega⟩
    · obtain rfl : j = xs.length := by omega
      have hd : decide ((xs.length : Int) < (xs.length : Int)) = false := by simp
      clear h1 h2 ht
      go_wp2
      go_ret
      exact ⟨rfl, hbl⟩
def KTS.szs (xs : List tx.T7) : Nat := (xs.map fun d => tx.szT d).sum
set_option maxRecDepth 100000 in
set_option maxHeartbeats 4000000 in
theorem KTS.sz (w : World) (a : Option Addr) (cap : Nat) (xs : List tx.T7) (l : Nat) (hl0 : l ≤ 1048576) (hn : xs.length ≤ maxLen) (hl : ∀ d ∈ xs, tx.TL d) (hs : KTk.RdS w a xs) :
    Calls Tryz.prog 28 #[.slice a xs.length cap, .int .i64 (l : Int)] w fun e w' => e = .returned (.int .i64 (leftR l (xs.length + KTS.szs xs))) ∧ Below w.heap.size w w' := by
  have hn' := hn
  unfold maxLen at hn'
  by_cases h0 : xs.length ≤ l
  · have d0 : decide ((l : Int) - (xs.length : Int) < 0) = false := by simp; omega
    go_enter Tryz.func28, Tryz.ntmps28
    go_wp2
    go_loopw [1, 5] (fun v1 v5 wr => ∃ j : Nat, j ≤ xs.length ∧ v5 = .int .i64 j ∧ xs.length + KTS.szs (xs.take j) ≤ l ∧ v1 = .int .i64 ((l - (xs.length + KTS.szs (xs.take j)) : Nat) : Int) ∧ Below w.heap.size w wr) (fun _ v5 _ => xs.length - (intOf v5).toNat)
    case atStart => exact ⟨0, Nat.zero_le _, rfl, by simpa [KTS.szs] using h0, by simp [KTS.szs]; try omega, Below.refl _ _⟩
    case round =>
      obtain ⟨j, hj, rfl, hle, rfl, hbl⟩ := hrel
      have KL : Hid (xs.length + KTS.szs (xs.take j) ≤ l) := hle
      by_cases hlt : j < xs.length
      · obtain ⟨d, hd⟩ : ∃ d, xs[j]? = some d := ⟨_, List.getElem?_eq_getElem hlt⟩
        rcases hs with hs | ⟨b, off, rfl, hb, h1⟩
        · rw [hs] at hlt; simp at hlt
        obtain ⟨⟨c0, c1, c2, c3⟩, hat, hrd⟩ := h1 j d hd
        have e0 : wr.cell? ⟨b, off + j * 7, none⟩ = some (.int .i64 d.id) := (hbl.cell (p := ⟨b, off + j * 7, none⟩) hb).trans (hat 0 _ rfl)
        have e1 : wr.cell? ⟨b, off + j * 7 + 1, none⟩ = some (.int .i64 d.home) := (hbl.cell (p := ⟨b, off + j * 7 + 1, none⟩) hb).trans (hat 1 _ rfl)
        have e2 : wr.cell? ⟨b, off + j * 7 + 2, none⟩ = some (.int .i64 d.phase) := (hbl.cell (p := ⟨b, off + j * 7 + 2, none⟩) hb).trans (hat 2 _ rfl)
        have e3 : wr.cell? ⟨b, off + j * 7 + 3, none⟩ = some (.int .i64 d.count) := (hbl.cell (p := ⟨b, off + j * 7 + 3, none⟩) hb).trans (hat 3 _ rfl)
        have e4 : wr.cell? ⟨b, off + j * 7 + 4, none⟩ = some (.slice c0 d.reads.length c1) := (hbl.cell (p := ⟨b, off + j * 7 + 4, none⟩) hb).trans (hat 4 _ rfl)
        have e5 : wr.cell? ⟨b, off + j * 7 + 5, none⟩ = some (.slice c2 d.sets.length c3) := (hbl.cell (p := ⟨b, off + j * 7 + 5, none⟩) hb).trans (hat 5 _ rfl)
        have e6 : wr.cell? ⟨b, off + j * 7 + 6, none⟩ = some (.int .i64 d.stamp) := (hbl.cell (p := ⟨b, off + j * 7 + 6, none⟩) hb).trans (hat 6 _ rfl)
        have hz := KT.szl wr c0 c1 c2 c3 d (l - (xs.length + KTS.szs (xs.take j))) (by omega) (hl d (List.mem_of_getElem? hd))
        have HST : Hid (KTS.szs (xs.take (j + 1)) = KTS.szs (xs.take j) + tx.szT d) := by
          unfold Hid KTS.szs
          rw [List.map_take, List.map_take]
          exact sum_take_succ (by rw [List.getElem?_map, hd]; rfl)
        have HLE : Hid (KTS.szs (xs.take (j + 1)) ≤ KTS.szs xs) := by unfold Hid KTS.szs; rw [List.map_take]; exact sum_take_le _ _
        have KB : Hid (Below w.heap.size w wr) := hbl
        have jn : (j : Int) < (xs.length : Int) := by omega
        generalize hLL : KTS.szs (xs.take j) = LL at *
        generalize tx.szT d = m at *
        clear h1 hbl hl hle hat hrd hd
        by_cases hfit : m ≤ l - (xs.length + LL)
        · rw [leftR_yes hfit] at hz
          have d1 : decide (((l - (xs.length + LL) - m : Nat) : Int) < 0) = false := by simp
          go_wp2_with fail
          refine hz.mono ?_
          clear hz
          rintro e w1 ⟨rfl, b1⟩
          go_wp2
          have h1 := KL.out
          refine ⟨⟨j + 1, by omega, by simp, by rw [HST.out]; omega, by rw [HST.out]; congr 2; omega, KB.out.trans (b1.mono KB.out.size)⟩, by simp [intOf]; omega⟩
        · rw [leftR_no hfit] at hz
          go_wp2_with fail
          refine hz.mono ?_
          clear hz
          rintro e w1 ⟨rfl, b1⟩
          go_wp2
          go_ret
          have h2 := HST.out
          have h3 := HLE.out
          refine ⟨by rw [leftR_no (by omega)]; rfl, KB.out.trans (b1.mono KB.out.size)⟩
      · obtain rfl : j = xs.length := by omega
        have hd : decide ((xs.length : Int) < (xs.length : Int)) = false := by simp
        rw [List.take_length] at hle ⊢
        clear hs hl KL
        go_wp2
        go_ret
        exact ⟨by rw [leftR_yes hle]; rfl, hbl⟩
  · have d0 : decide ((l : Int) - (xs.length : Int) < 0) = true := by simp; omega
    go_enter Tryz.func28, Tryz.ntmps28
    go_wp2
    go_ret
    exact ⟨by rw [leftR_no (by omega)]; rfl, Below.refl _ _⟩
end Go.Proofs.YtnhjgomfkfehgaaGreatDoor
namespace Go.Proofs.YtnhjgomfkfehgaaGreatDoor
open Go.RowKit
def OwnQ (w : World) (base : Nat) (a : Option Addr) (n : Nat) (zss : List (List Int)) (g : Nat → Nat) : Prop :=
  (a = none ∧ n = 0 ∧ zss = []) ∨ ∃ b, a = some ⟨b, 0, none⟩ ∧ base ≤ b ∧ b < w.heap.size ∧ OwnP w base b n zss g
theorem OwnQ.sl {w : World} {base : Nat} {a : Option Addr} {n : Nat} {zss : List (List Int)} {g : Nat → Nat} (h : OwnQ w base a n zss g) : SlP w w.heap.size a n zss := by
  rcases h with ⟨rfl, rfl, rfl⟩ | ⟨b, rfl, _, hb, ho⟩
  · exact ⟨rfl, .inl rfl⟩
  · exact ho.sl hb
theorem OwnQ.later {w w' : World} {base : Nat} {a : Option Addr} {n : Nat} {zss : List (List Int)} {g : Nat → Nat} (h : OwnQ w base a n zss g) (hb : Below w.heap.size w w') : OwnQ w' base a n zss g := by
  rcases h with h | ⟨b, rfl, hb1, hb2, ho⟩
  · exact .inl h
  · exact .inr ⟨b, rfl, hb1, Nat.lt_of_lt_of_le hb2 hb.size, ho.later hb hb2⟩
theorem OwnQ.low {w : World} {base : Nat} {a : Option Addr} {n : Nat} {zss : List (List Int)} {g : Nat → Nat} (h : OwnQ w base a n zss g) : ∀ i, i < n → base ≤ g i := by
  rcases h with ⟨_, rfl, _⟩ | ⟨b, rfl, _, _, ho⟩
  · intro i hi; omega
  · exact ho.low
theorem OwnQ.lt {w : World} {base : Nat} {a : Option Addr} {n : Nat} {zss : List (List Int)} {g : Nat → Nat} (h : OwnQ w base a n zss g) : ∀ i, i < n → g i < w.heap.size := by
  rcases h with ⟨_, rfl, _⟩ | ⟨b, rfl, _, _, ho⟩
  · intro i hi; omega
  · exact ho.lt
theorem OwnQ.kept {w w' : World} {base : Nat} {a : Option Addr} {n : Nat} {zss : List (List Int)} {g : Nat → Nat} (h : OwnQ w base a n zss g) (hs : w.heap.size ≤ w'.heap.size) (eb : ∀ b, a = some ⟨b, 0, none⟩ → w'.heap[b]? = w.heap[b]?) (eg : ∀ i, i < n → w'.heap[g i]? = w.heap[g i]?) : OwnQ w' base a n zss g := by
  rcases h with h | ⟨b, rfl, hb1, hb2, ho⟩
  · exact .inl h
  · exact .inr ⟨b, rfl, hb1, Nat.lt_of_lt_of_le hb2 hs, ho.of_blocks hs (eb b rfl) eg⟩
theorem OwnQ.lower {w : World} {base base' : Nat} {a : Option Addr} {n : Nat} {zss : List (List Int)} {g : Nat → Nat} (h : OwnQ w base a n zss g) (hb : base' ≤ base) : OwnQ w base' a n zss g := by
  rcases h with h | ⟨b, e, h1, h2, o⟩
  · exact .inl h
  · exact .inr ⟨b, e, Nat.le_trans hb h1, h2, ⟨o.len, o.cell, fun i hi => Nat.le_trans hb (o.low i hi), o.lt, o.ne, o.nums, o.room, o.inj⟩⟩
end Go.Proofs.YtnhjgomfkfehgaaGreatDoor
namespace Go.Proofs.YtnhjgomfkfehgaaGreatDoor
open Go.RowKit
open Go.Sort (grow)
set_option maxHeartbeats 1000000 in
theorem toPlace_any (w : World) (a : Option Addr) (n cap : Nat) (zs : List Int) (hn : n ≤ 1048576) (hs : SlN w w.heap.size a n zs) : Calls Tryz.prog 85 #[.agg #[.slice a n cap]] w fun e w' =>
    ∃ g, e = .returned (.agg #[.slice (some ⟨g, 0, none⟩) n n]) ∧ Below w.heap.size w w' ∧ w.heap.size ≤ g ∧ g < w'.heap.size ∧ NumsAt w' g 0 zs ∧ Room w' g n := by
  go_enter Tryz.func85, Tryz.ntmps85
  go_wp2_with fail
  obtain ⟨W, hW⟩ : ∃ W, W = ((w.alloc (.cells #[.slice a n cap] 114)).alloc (.cells #[.slice none 0 0] 127)).alloc (.cells #[.slice none 0 0] 127) := ⟨_, rfl⟩
  have bW : Below w.heap.size w W := by rw [hW]; exact (((Below.refl _ _).alloc (Nat.le_refl _) _).alloc (by simp) _).alloc (by simp; omega) _
  have zW : W.heap.size = w.heap.size + 3 := by rw [hW]; simp
  have c1 : W.cell? ⟨w.heap.size + 1, 0, none⟩ = some (.slice none 0 0) := by rw [hW]; go_simp
  have c2 : W.cell? ⟨w.heap.size + 2, 0, none⟩ = some (.slice none 0 0) := by rw [hW]; go_simp
  have f1 : W.frozen? ⟨w.heap.size + 1, 0, none⟩ = false := by rw [hW]; go_simp
  have f2 : W.frozen? ⟨w.heap.size + 2, 0, none⟩ = false := by rw [hW]; go_simp
  rw [← hW]
  clear hW
  refine (toInt64S_any W a n cap zs hn (hs.later bW)).mono ?_
  rintro e w1 ⟨rfl, b1, l1, n1, r1⟩
  have c1 := (b1.cell (p := ⟨w.heap.size + 1, 0, none⟩) (by simp; omega)).trans c1
  have c2 := (b1.cell (p := ⟨w.heap.size + 2, 0, none⟩) (by simp; omega)).trans c2
  have f1 := (b1.frozen (p := ⟨w.heap.size + 1, 0, none⟩) (by simp; omega)).trans f1
  have f2 := (b1.frozen (p := ⟨w.heap.size + 2, 0, none⟩) (by simp; omega)).trans f2
  have K : Hid (Below w.heap.size w w1 ∧ W.heap.size < w1.heap.size ∧ NumsAt w1 W.heap.size 0 zs ∧ Room w1 W.heap.size n ∧ W.heap.size = w.heap.size + 3) := ⟨bW.trans (b1.mono bW.size), l1, n1, r1, zW⟩
  clear bW zW b1 l1 n1 r1 hs
  generalize W.heap.size = g at *
  go_wp2
  refine bodyPost_ret (v := .agg #[.slice (some ⟨g, 0, none⟩) n n]) (by simp [results, Tryz.results85, go_sem, c1]) rfl ?_
  obtain ⟨b1, l1, n1, r1, zW⟩ := K.out
  have far : ∀ (V : World) (q o : Nat) (v : Value), q ≠ g → (V.setCell ⟨q, o, none⟩ v).heap[g]? = V.heap[g]? := fun V q o v h => Below.heap_setCell _ _ _ _ (fun e => h e.symm)
  have he := (far (w1.setCell ⟨w.heap.size + 2, 0, none⟩ (.slice (some ⟨g, 0, none⟩) n n)) (w.heap.size + 1) 0 (.slice (some ⟨g, 0, none⟩) n n) (by omega)).trans (far w1 (w.heap.size + 2) 0 (.slice (some ⟨g, 0, none⟩) n n) (by omega))
  exact ⟨g, rfl, (b1.setCell (p := ⟨w.heap.size + 2, 0, none⟩) (by simp) _).setCell (p := ⟨w.heap.size + 1, 0, none⟩) (by simp) _, by omega, by simpa [World.setCell] using l1, n1.of_block he, r1.of_block he⟩
theorem make_places (n : Nat) (hn : n ≤ 1048576) (w : World) : (Instr.makeSlice 28 (.int .i64 (n : Int)) (.int .i64 (n : Int))).run Tryz.prog w = .ok (.slice (some ⟨w.heap.size, 0, none⟩) n n) (w.alloc (.cells (madeCells #[.slice none 0 0] n) 127)) := by
  have info : (Tryz.prog.info? 127).map (fun i => (i.zero, i.size, i.bytes)) = some (some (.agg #[.slice none 0 0]), 1, 24) := by kernel_rfl
  obtain ⟨i, hi, hzz⟩ := Option.map_eq_some_iff.1 info
  simp only [Prod.mk.injEq] at hzz
  obtain ⟨hz, hs, hb⟩ := hzz
  have := run_make (P := Tryz.prog) w 28 127 i _ Tryz.underlying28 hi hz .i64 .i64 (n : Int) (n : Int) (by omega) (by omega) (by rw [hb]; omega) (by omega)
  rw [hs] at this
  simpa [Value.cells] using this
set_option maxHeartbeats 2000000 in
theorem toPlaceS_any (w : World) (a : Option Addr) (n cap : Nat) (zss : List (List Int)) (hn : n ≤ 1048576) (hl : ∀ zs ∈ zss, zs.length ≤ 1048576) (hs : SlP w w.heap.size a n zss) : Calls Tryz.prog 35 #[.slice a n cap] w fun e w' =>
    ∃ g, e = .returned (.slice (some ⟨w.heap.size, 0, none⟩) n n) ∧ Below w.heap.size w w' ∧ w.heap.size < w'.heap.size ∧ OwnP w' w.heap.size w.heap.size n zss g := by
  obtain ⟨hx, hs⟩ := hs
  have hmk := make_places n hn
  go_enter Tryz.func35, Tryz.ntmps35
  go_wp2
  go_loopw [4] (fun i wr => ∃ (j : Nat) (g : Nat → Nat), j ≤ n ∧ i = .int .i64 j ∧ Below w.heap.size w wr ∧ w.heap.size < wr.heap.size ∧ Room wr w.heap.size n ∧ OwnP wr w.heap.size w.heap.size j (zss.take j) g) (fun i _ => n - (intOf i).toNat)
  case atStart => exact ⟨0, fun _ => 0, Nat.zero_le _, rfl, (Below.refl _ _).alloc (Nat.le_refl _) _, by simp, room_made _ _ _ _, by rw [List.take_zero]; exact OwnP.nil _ _ _ _⟩
  case round =>
    obtain ⟨j, g, hj, rfl, hbl, hsz, hro, hown⟩ := hrel
    by_cases hlt : j < n
    · rcases hs with hs | ⟨b, off, rfl, hb, h1⟩
      · omega
      · obtain ⟨a', cap', hc, hsl, _⟩ := h1 j _ (atP_of (by omega))
        have c := (hbl.cell (p := ⟨b, off + j, none⟩) hb).trans hc
        have hcl := toPlace_any wr a' (atP zss j).length cap' (atP zss j) (hl _ (List.mem_of_getElem? (atP_of (by omega)))) ((hsl.below hbl).mono hbl.size)
        have K : Hid (Room wr w.heap.size n ∧ OwnP wr w.heap.size w.heap.size j (zss.take j) g ∧ Below w.heap.size w wr ∧ w.heap.size < wr.heap.size ∧ zss.take (j + 1) = zss.take j ++ [atP zss j]) := ⟨hro, hown, hbl, hsz, by rw [List.take_add_one, atP_of (by omega)]; rfl⟩
        clear hro hown hbl hmk h1 hx hl hsl hc
        go_wp2_with fail
        refine hcl.mono ?_
        clear hcl
        rintro e w1 ⟨q, rfl, b1, lq, hq, hnu, hrm⟩
        obtain ⟨v, d, f⟩ := (K.out.1.below b1 K.out.2.2.2.1) j hlt
        have K1 : Hid (Below wr.heap.size wr w1 ∧ wr.heap.size ≤ q ∧ q < w1.heap.size ∧ NumsAt w1 q 0 (atP zss j) ∧ Room w1 q (atP zss j).length) := ⟨b1, lq, hq, hnu, hrm⟩
        clear b1 lq hq hnu hrm
        go_wp2
        obtain ⟨hro, hown, hbl, hsz, htk⟩ := K.out
        obtain ⟨b1, lq, hq, hnu, hrm⟩ := K1.out
        have far : ∀ (V : World) (x o : Nat) (v : Value), x ≠ w.heap.size → (V.setCell ⟨w.heap.size, o, none⟩ v).heap[x]? = V.heap[x]? := fun V x o v h => Below.heap_setCell _ _ _ _ h
        have hsz1 : w.heap.size < w1.heap.size := Nat.lt_of_lt_of_le hsz b1.size
        have ho1 : OwnP (w1.setCell ⟨w.heap.size, j, none⟩ (.slice (some ⟨q, 0, none⟩) (atP zss j).length (atP zss j).length)) w.heap.size w.heap.size j (zss.take j) g := by
          have h1 := hown.later b1 hsz
          refine ⟨h1.len, fun i zs e => ?_, h1.low, fun i hi => by simpa [World.setCell] using h1.lt i hi, h1.ne, fun i zs e => (h1.nums i zs e).of_block (far _ _ _ _ (h1.ne i ?_)), fun i zs e => (h1.room i zs e).of_block (far _ _ _ _ (h1.ne i ?_)), h1.inj⟩
          · obtain ⟨cp, hcc, hcp⟩ := h1.cell i zs e
            have hi : i < j := by have := (List.getElem?_eq_some_iff.1 e).1; have := h1.len; omega
            exact ⟨cp, by rw [cell_set_other (by omega)]; exact hcc, hcp⟩
          · have := (List.getElem?_eq_some_iff.1 e).1; have := h1.len; omega
          · have := (List.getElem?_eq_some_iff.1 e).1; have := h1.len; omega
        have ho2 := ho1.snoc (zs := atP zss j) (q := q) (cap := (atP zss j).length) (cell_set_same d) (Nat.le_refl _) (by omega) (by simpa [World.setCell] using hq) (by omega) (hnu.of_block (far _ _ _ _ (by omega))) (hrm.of_block (far _ _ _ _ (by omega))) (fun i hi e => by have := hown.lt i hi; omega)
        rw [← htk] at ho2
        exact ⟨⟨j + 1, _, by omega, by simp, (hbl.trans (b1.mono hbl.size)).setCell (p := ⟨w.heap.size, j, none⟩) (Nat.le_refl _) _, by simpa [World.setCell] using hsz1, (hro.below b1 hsz).set _, ho2⟩, by simp [intOf]; omega⟩
    · have : j = n := by omega
      subst this
      have hd : decide (j < j) = false := by simp
      rw [← hx, List.take_length, hx] at hown
      have K : Hid (OwnP wr w.heap.size w.heap.size j zss g) := hown
      clear hown hs hro
      go_wp2
      go_ret
      exact ⟨g, rfl, hbl, hsz, K.out⟩
set_option maxHeartbeats 1000000 in
theorem eqPlace_same (w : World) (a a' : Option Addr) (n cap cap' : Nat) (zs : List Int) (hn : n ≤ maxLen) (h1 : SlN w w.heap.size a n zs) (h2 : SlN w w.heap.size a' n zs) :
    Calls Tryz.prog 95 #[.agg #[.slice a n cap], .agg #[.slice a' n cap']] w fun e w' => e = .returned (.bool true) ∧ Below w.heap.size w w' := by
  go_enter Tryz.func95, Tryz.ntmps95
  go_wp2_with fail
  have b0 : Below w.heap.size w ((w.alloc (.cells #[.slice a n cap] 127)).alloc (.cells #[.slice a' n cap'] 127)) := ((Below.refl _ _).alloc (Nat.le_refl _) _).alloc (by simp) _
  refine (eqInt64S_any _ a a' n cap cap' zs hn (h1.later b0) (h2.later b0)).mono ?_
  rintro e w' ⟨rfl, b1⟩
  go_wp2
  go_ret
  exact ⟨rfl, b0.trans (b1.mono b0.size)⟩
set_option maxHeartbeats 2000000 in
theorem eqPlaceS_any (w : World) (a a' : Option Addr) (n cap cap' : Nat) (zss : List (List Int)) (hn : n ≤ maxLen) (hl : ∀ zs ∈ zss, zs.length ≤ maxLen) (h1 : SlP w w.heap.size a n zss) (h2 : SlP w w.heap.size a' n zss) :
    Calls Tryz.prog 41 #[.slice a n cap, .slice a' n cap'] w fun e w' => e = .returned (.bool true) ∧ Below w.heap.size w w' := by
  unfold maxLen at hn
  obtain ⟨hx, h1⟩ := h1
  obtain ⟨_, h2⟩ := h2
  go_enter Tryz.func41, Tryz.ntmps41
  go_wp2
  go_loopw [5] (fun i wr => ∃ k : Nat, k ≤ n ∧ i = .int .i64 k ∧ Below w.heap.size w wr) (fun i _ => n - (intOf i).toNat)
  case atStart => exact ⟨0, Nat.zero_le _, rfl, Below.refl _ _⟩
  case round =>
    obtain ⟨k, hk, rfl, hbl⟩ := hrel
    by_cases hlt : k < n
    · rcases h1 with h1 | ⟨b, off, rfl, hb, h1⟩
      · omega
      · rcases h2 with h2 | ⟨b', off', rfl, hb', h2⟩
        · omega
        · obtain ⟨a1, k1, d1, s1, _⟩ := h1 k _ (atP_of (by omega))
          obtain ⟨a2, k2, d2, s2, _⟩ := h2 k _ (atP_of (by omega))
          have hll := hl _ (List.mem_of_getElem? (atP_of (zss := zss) (i := k) (by omega)))
          have hbW : b < wr.heap.size := Nat.lt_of_lt_of_le hb hbl.size
          have hbW' : b' < wr.heap.size := Nat.lt_of_lt_of_le hb' hbl.size
          have e1 := (hbl.cell (p := ⟨b, off + k, none⟩) hb).trans d1
          have e2 := (hbl.cell (p := ⟨b', off' + k, none⟩) hb').trans d2
          have c1 : ∀ d os, (grow (redrawn wr d) os).cell? ⟨b, off + k, none⟩ = some (.slice a1 (atP zss k).length k1) := fun d os => ((below_regrown wr d os).cell (p := ⟨b, off + k, none⟩) hbW).trans e1
          have c2 : ∀ d os, (grow (redrawn wr d) os).cell? ⟨b', off' + k, none⟩ = some (.slice a2 (atP zss k).length k2) := fun d os => ((below_regrown wr d os).cell (p := ⟨b', off' + k, none⟩) hbW').trans e2
          have t1 : SlN wr wr.heap.size a1 (atP zss k).length (atP zss k) := (s1.below hbl).mono hbl.size
          have t2 : SlN wr wr.heap.size a2 (atP zss k).length (atP zss k) := (s2.below hbl).mono hbl.size
          have cQ : ∀ d os, Calls Tryz.prog 95 #[.agg #[.slice a1 (atP zss k).length k1], .agg #[.slice a2 (atP zss k).length k2]] (grow (redrawn wr d) os) fun e w'' => e = .returned (.bool true) ∧ ∃ p : Regrown, w'' = grow (redrawn wr p.d) p.os := fun d os => Calls.regrown_of (eqPlace_same _ a1 a2 _ k1 k2 (atP zss k) hll (t1.later (below_regrown wr d os)) (t2.later (below_regrown wr d os)))
          have K : Hid (Below w.heap.size w wr) := hbl
          clear t1 t2 hbl h1 h2 s1 s2 e1 e2 d1 d2 hl hll hx
          go_wp2_with fail
          refine wp_region_quiet_below (by kernel_rfl) (by kernel_rfl) ?_
          repeat (go_big_quiet_step (exact cQ _ _))
          refine wpQuiet_nil ?_
          intro _ hw'
          obtain ⟨⟨dq, osq⟩, hw''⟩ := hw'
          subst hw''
          have bq := below_regrown wr dq osq
          go_wp2
          exact ⟨⟨k + 1, by omega, by simp, K.out.trans (bq.mono K.out.size)⟩, by simp [intOf]; omega⟩
    · have : k = n := by omega
      subst this
      have hd : decide (k < k) = false := by simp
      clear h1 h2
      go_wp2
      go_ret
      exact ⟨rfl, hbl⟩
end Go.Proofs.YtnhjgomfkfehgaaGreatDoor
namespace Go.Proofs.YtnhjgomfkfehgaaGreatDoor
open Go.RowKit
structure C6 where
  config : Int
  clock : Int
  places : List (List Int)
  machines : List M4
  txs : List tx.T7
  lost : Bool
def KP.Ow (w : World) (B : Nat) (a : Option Addr) (zss : List (List Int)) (P : Nat → Prop) : Prop := (∃ g, OwnQ w B a zss.length zss g ∧ (∀ b, a = some ⟨b, 0, none⟩ → P b) ∧ (∀ i, i < zss.length → P (g i))) ∧ (∀ q, P q → B ≤ q ∧ q < w.heap.size)
theorem KP.Ow.of {w : World} {B : Nat} {a : Option Addr} {zss : List (List Int)} {P : Nat → Prop} (h : KP.Ow w B a zss P) {q : Nat} (hq : P q) : B ≤ q ∧ q < w.heap.size := h.2 q hq
theorem KP.Ow.sl {w : World} {B : Nat} {a : Option Addr} {zss : List (List Int)} {P : Nat → Prop} (h : KP.Ow w B a zss P) : SlP w w.heap.size a zss.length zss := by obtain ⟨⟨g, h, _⟩, _⟩ := h; exact h.sl
theorem KP.Ow.keep {w w' : World} {B : Nat} {a : Option Addr} {zss : List (List Int)} {P : Nat → Prop} (h : KP.Ow w B a zss P) (hs : w.heap.size ≤ w'.heap.size) (hk : ∀ q, P q → w'.heap[q]? = w.heap[q]?) : KP.Ow w' B a zss P := by
  obtain ⟨⟨g, h1, h2, h3⟩, h4⟩ := h
  exact ⟨⟨g, h1.kept hs (fun b e => hk b (h2 b e)) (fun i hi => hk _ (h3 i hi)), h2, h3⟩, fun q hq => ⟨(h4 q hq).1, Nat.lt_of_lt_of_le (h4 q hq).2 hs⟩⟩
theorem KP.Ow.later {w w' : World} {B : Nat} {a : Option Addr} {zss : List (List Int)} {P : Nat → Prop} (h : KP.Ow w B a zss P) (hb : Below w.heap.size w w') : KP.Ow w' B a zss P := h.keep hb.size (fun q hq => hb.block q (h.of hq).2)
theorem KP.to (w : World) (a : Option Addr) (cap : Nat) (zss : List (List Int)) (hn : zss.length ≤ 1048576) (hl : ∀ zs ∈ zss, zs.length ≤ 1048576) (hs : SlP w w.heap.size a zss.length zss) : Calls Tryz.prog 35 #[.slice a zss.length cap] w fun e w' =>
    ∃ P, e = .returned (.slice (some ⟨w.heap.size, 0, none⟩) zss.length zss.length) ∧ KP.Ow w' w.heap.size (some ⟨w.heap.size, 0, none⟩) zss P ∧ Below w.heap.size w w' := by
  refine (toPlaceS_any w a zss.length cap zss hn hl hs).mono ?_
  rintro e w' ⟨g, rfl, b, hlt, ho⟩
  have hq : OwnQ w' w.heap.size (some ⟨w.heap.size, 0, none⟩) zss.length zss g := .inr ⟨w.heap.size, rfl, Nat.le_refl _, hlt, ho⟩
  refine ⟨fun q => q = w.heap.size ∨ ∃ i, i < zss.length ∧ g i = q, rfl, ⟨⟨g, hq, fun b e => .inl (by cases e; rfl), fun i hi => .inr ⟨i, hi, rfl⟩⟩, fun q h => ?_⟩, b⟩
  rcases h with rfl | ⟨i, hi, rfl⟩
  · exact ⟨Nat.le_refl _, hlt⟩
  · exact ⟨hq.low i hi, hq.lt i hi⟩
structure KCl.Rd (X : World) (a1 : Option Addr) (_ : Nat) (a2 : Option Addr) (_ : Nat) (a3 : Option Addr) (_ : Nat) (k : C6) : Prop where
  p : SlP X X.heap.size a1 k.places.length k.places
  m : KMk.RdS X a2 k.machines
  t : KTk.RdS X a3 k.txs
theorem KCl.Rd.later {X Y : World} {a1 : Option Addr} {c1 : Nat} {a2 : Option Addr} {c2 : Nat} {a3 : Option Addr} {c3 : Nat} {k : C6} (h : KCl.Rd X a1 c1 a2 c2 a3 c3 k) (b : Below X.heap.size X Y) : KCl.Rd Y a1 c1 a2 c2 a3 c3 k := ⟨h.p.later b, h.m.later b, h.t.later b⟩
def KCl.Ow (w : World) (B : Nat) (a1 : Option Addr) (_ : Nat) (a2 : Option Addr) (_ : Nat) (a3 : Option Addr) (_ : Nat) (k : C6) (P : Nat → Prop) : Prop := (∃ P1 P2 P3, KP.Ow w B a1 k.places P1 ∧ KMk.OwS w B a2 k.machines P2 ∧ KTk.OwS w B a3 k.txs P3 ∧ (∀ q, P1 q → P q) ∧ (∀ q, P2 q → P q) ∧ (∀ q, P3 q → P q) ∧ (∀ q, P1 q → ¬ P2 q) ∧ (∀ q, P1 q → ¬ P3 q) ∧ (∀ q, P2 q → ¬ P3 q)) ∧ (∀ q, P q → B ≤ q ∧ q < w.heap.size)
theorem KCl.Ow.of {w : World} {B : Nat} {a1 : Option Addr} {c1 : Nat} {a2 : Option Addr} {c2 : Nat} {a3 : Option Addr} {c3 : Nat} {k : C6} {P : Nat → Prop} (h : KCl.Ow w B a1 c1 a2 c2 a3 c3 k P) {q : Nat} (hq : P q) : B ≤ q ∧ q < w.heap.size := h.2 q hq
theorem KCl.Ow.sl {w : World} {B : Nat} {a1 : Option Addr} {c1 : Nat} {a2 : Option Addr} {c2 : Nat} {a3 : Option Addr} {c3 : Nat} {k : C6} {P : Nat → Prop} (h : KCl.Ow w B a1 c1 a2 c2 a3 c3 k P) : KCl.Rd w a1 c1 a2 c2 a3 c3 k := by obtain ⟨⟨_, _, _, h1, h2, h3, _⟩, _⟩ := h; exact ⟨h1.sl, h2.sl, h3.sl⟩
theorem KCl.Ow.keep {w : World} {B : Nat} {a1 : Option Addr} {c1 : Nat} {a2 : Option Addr} {c2 : Nat} {a3 : Option Addr} {c3 : Nat} {k : C6} {P : Nat → Prop} {w' : World} (h : KCl.Ow w B a1 c1 a2 c2 a3 c3 k P) (hs : w.heap.size ≤ w'.heap.size) (hk : ∀ q, P q → w'.heap[q]? = w.heap[q]?) : KCl.Ow w' B a1 c1 a2 c2 a3 c3 k P := by
  obtain ⟨⟨P1, P2, P3, h1, h2, h3, p1, p2, p3, h4⟩, h5⟩ := h
  exact ⟨⟨P1, P2, P3, h1.keep hs (fun q hq => hk q (p1 q hq)), h2.keep hs (fun q hq => hk q (p2 q hq)), h3.keep hs (fun q hq => hk q (p3 q hq)), p1, p2, p3, h4⟩, fun q hq => ⟨(h5 q hq).1, Nat.lt_of_lt_of_le (h5 q hq).2 hs⟩⟩
theorem KCl.Ow.later {w : World} {B : Nat} {a1 : Option Addr} {c1 : Nat} {a2 : Option Addr} {c2 : Nat} {a3 : Option Addr} {c3 : Nat} {k : C6} {P : Nat → Prop} {w' : World} (h : KCl.Ow w B a1 c1 a2 c2 a3 c3 k P) (hb : Below w.heap.size w w') : KCl.Ow w' B a1 c1 a2 c2 a3 c3 k P := h.keep hb.size (fun q hq => hb.block q (h.of hq).2)
structure KCl.S (k : C6) : Prop where
  p : k.places.length ≤ 1048576
  ps : ∀ zs ∈ k.places, zs.length ≤ 1048576
  m : k.machines.length ≤ 1048576
  ms : ∀ m ∈ k.machines, MT m
  t : k.txs.length ≤ 1048576
  ts : ∀ t ∈ k.txs, KT.S t
def R4.val (r : R4) (a : Option Addr) (cap : Nat) : Value := .agg #[.int .i64 r.kind, .int .i64 r.tx, .int .i64 r.region, .slice a r.sets.length cap]
def K2.val (k : K2) (a : Option Addr) (cap : Nat) : Value := .agg #[.int .i64 k.region, .slice a k.cells.length cap]
def FirstAt (f : Nat → Bool) (n : Nat) (i : Int) : Prop := (i = -1 ∧ ∀ j, j < n → f j = false) ∨ ∃ k : Nat, i = (k : Int) ∧ k < n ∧ f k = true ∧ ∀ j, j < k → f j = false
theorem first_has {f : Nat → Bool} {n : Nat} {i : Int} (h : FirstAt f n i) : decide (0 ≤ i) = !((List.range n).all fun j => !f j) := by
  rcases h with ⟨rfl, h⟩ | ⟨k, rfl, hk, h, _⟩
  · have : ((List.range n).all fun j => !f j) = true := by
      rw [List.all_eq_true]; intro j hj; rw [h j (List.mem_range.1 hj)]; rfl
    rw [this]; rfl
  · have : ((List.range n).all fun j => !f j) = false := by
      rw [List.all_eq_false]; exact ⟨k, List.mem_range.2 hk, by simp [h]⟩
    rw [this]; simp
theorem hidOf {p : Prop} (h : p) : Hid p := h
def idxLogF (w : World) (n : Nat) (rs : List R4)  (f : Nat → Bool) : Prop :=
  ∀ (X : World) (i : Nat) (a' : Option Addr) (cap' : Nat), Below w.heap.size w X → i < n → Sl X X.heap.size a' (atR rs i).sets.length (atR rs i).sets → Calls Tryz.prog 286 #[(atR rs i).val a' cap'] X fun e w' => e = .returned (.bool (f i)) ∧ Below X.heap.size X w'
set_option maxHeartbeats 2000000 in
theorem idxLog (w : World) (a : Option Addr) (n cap : Nat) (rs : List R4)  (f : Nat → Bool) (hn : n ≤ maxLen) (hs : SlR w w.heap.size a n rs) (hf : idxLogF w n rs  f) :
    Calls Tryz.prog 302 #[.slice a n cap, .func (.func 286) #[] #[]] w fun e w' => (∃ i : Int, e = .returned (.int .i64 i) ∧ FirstAt f n i) ∧ Below w.heap.size w w' := by
  unfold maxLen at hn
  obtain ⟨hx, hs⟩ := hs
  have HF := hidOf hf
  clear hf
  go_enter Tryz.func302, Tryz.ntmps302
  go_wp2
  go_loopw [8] (fun v wr => ∃ j : Nat, j ≤ n ∧ v = .int .i64 j ∧ Below w.heap.size w wr ∧ ∀ i, i < j → f i = false) (fun v _ => n - (intOf v).toNat)
  case atStart => exact ⟨0, Nat.zero_le _, rfl, Below.refl _ _, fun i h => absurd h (by omega)⟩
  case round =>
    obtain ⟨j, hj, rfl, hbl, hall⟩ := hrel
    by_cases hlt : j < n
    · rcases hs with hs | ⟨b, off, rfl, hb, h1⟩
      · omega
      · have hr := (h1 j _ (atR_of (by omega))).below hbl hb
        have c0 := hr.c0
        have c1 := hr.c1
        have c2 := hr.c2
        obtain ⟨a', cap', c3, hsl, hcp⟩ := hr.c3
        have KA : Hid ((∀ i, i < j → f i = false) ∧ Below w.heap.size w wr) := ⟨hall, hbl⟩
        have hw := HF.out wr j a' cap' hbl hlt (hsl.mono hbl.size)
        simp only [R4.val] at hw
        clear h1 hr hall hsl hbl hcp
        generalize (atR rs j).sets.length = ln at *
        cases hp : f j with
        | true =>
          rw [hp] at hw
          go_wp2_with fail
          refine hw.mono ?_
          clear hw
          rintro e w1 ⟨rfl, b1⟩
          go_wp2
          go_ret
          exact ⟨⟨_, rfl, .inr ⟨j, rfl, hlt, hp, KA.out.1⟩⟩, KA.out.2.trans (b1.mono KA.out.2.size)⟩
        | false =>
          rw [hp] at hw
          go_wp2_with fail
          refine hw.mono ?_
          clear hw
          rintro e w1 ⟨rfl, b1⟩
          go_wp2
          exact ⟨⟨j + 1, by omega, by simp, KA.out.2.trans (b1.mono KA.out.2.size), fun i hi => by
            by_cases e : i = j
            · rw [e]; exact hp
            · exact KA.out.1 i (by omega)⟩, by simp [intOf]; omega⟩
    · have : j = n := by omega
      subst this
      have hd : decide ((j : Int) < (j : Int)) = false := by simp
      have KA : Hid (∀ i, i < j → f i = false) := hall
      clear hs hall
      go_wp2
      go_ret
      exact ⟨⟨_, rfl, .inl ⟨rfl, KA.out⟩⟩, hbl⟩
theorem idxLogHas (w : World) (a : Option Addr) (n cap : Nat) (rs : List R4) (f : Nat → Bool) (hn : n ≤ maxLen) (hs : SlR w w.heap.size a n rs) (hf : idxLogF w n rs f) :
    Calls Tryz.prog 288 #[.slice a n cap, .func (.func 286) #[] #[]] w fun e w' => e = .returned (.bool (!((List.range n).all fun j => !f j))) ∧ Below w.heap.size w w' := by
  have hi := idxLog w a n cap rs f hn hs hf
  clear hs hf
  go_enter Tryz.func288, Tryz.ntmps288
  go_wp2_with fail
  refine hi.mono ?_
  clear hi
  rintro e w1 ⟨⟨i, rfl, hb0⟩, b1⟩
  have hb := first_has hb0
  clear hb0
  generalize hV : (!((List.range n).all fun j => !f j)) = V at hb
  go_wp2
  go_ret
  exact ⟨by rw [hV]; rfl, b1⟩
def idxCopF (w : World) (n : Nat) (rs : List K2)  (f : Nat → Bool) : Prop :=
  ∀ (X : World) (i : Nat) (a' : Option Addr) (cap' : Nat), Below w.heap.size w X → i < n → SlC X X.heap.size a' (atK rs i).cells.length (atK rs i).cells → Calls Tryz.prog 282 #[(atK rs i).val a' cap'] X fun e w' => e = .returned (.bool (f i)) ∧ Below X.heap.size X w'
set_option maxHeartbeats 2000000 in
theorem idxCop (w : World) (a : Option Addr) (n cap : Nat) (rs : List K2)  (f : Nat → Bool) (hn : n ≤ maxLen) (hs : SlK w w.heap.size a n rs) (hf : idxCopF w n rs  f) :
    Calls Tryz.prog 299 #[.slice a n cap, .func (.func 282) #[] #[]] w fun e w' => (∃ i : Int, e = .returned (.int .i64 i) ∧ FirstAt f n i) ∧ Below w.heap.size w w' := by
  unfold maxLen at hn
  obtain ⟨hx, hs⟩ := hs
  have HF := hidOf hf
  clear hf
  go_enter Tryz.func299, Tryz.ntmps299
  go_wp2
  go_loopw [8] (fun v wr => ∃ j : Nat, j ≤ n ∧ v = .int .i64 j ∧ Below w.heap.size w wr ∧ ∀ i, i < j → f i = false) (fun v _ => n - (intOf v).toNat)
  case atStart => exact ⟨0, Nat.zero_le _, rfl, Below.refl _ _, fun i h => absurd h (by omega)⟩
  case round =>
    obtain ⟨j, hj, rfl, hbl, hall⟩ := hrel
    by_cases hlt : j < n
    · rcases hs with hs | ⟨b, off, rfl, hb, h1⟩
      · omega
      · have hr := (h1 j _ (atK_of (by omega))).below hbl hb
        have c0 := hr.c0
        obtain ⟨a', cap', c1, hsl, hcp⟩ := hr.c1
        have KA : Hid ((∀ i, i < j → f i = false) ∧ Below w.heap.size w wr) := ⟨hall, hbl⟩
        have hw := HF.out wr j a' cap' hbl hlt (hsl.mono hbl.size)
        simp only [K2.val] at hw
        clear h1 hr hall hsl hbl hcp
        generalize (atK rs j).cells.length = ln at *
        cases hp : f j with
        | true =>
          rw [hp] at hw
          go_wp2_with fail
          refine hw.mono ?_
          clear hw
          rintro e w1 ⟨rfl, b1⟩
          go_wp2
          go_ret
          exact ⟨⟨_, rfl, .inr ⟨j, rfl, hlt, hp, KA.out.1⟩⟩, KA.out.2.trans (b1.mono KA.out.2.size)⟩
        | false =>
          rw [hp] at hw
          go_wp2_with fail
          refine hw.mono ?_
          clear hw
          rintro e w1 ⟨rfl, b1⟩
          go_wp2
          exact ⟨⟨j + 1, by omega, by simp, KA.out.2.trans (b1.mono KA.out.2.size), fun i hi => by
            by_cases e : i = j
            · rw [e]; exact hp
            · exact KA.out.1 i (by omega)⟩, by simp [intOf]; omega⟩
    · have : j = n := by omega
      subst this
      have hd : decide ((j : Int) < (j : Int)) = false := by simp
      have KA : Hid (∀ i, i < j → f i = false) := hall
      clear hs hall
      go_wp2
      go_ret
      exact ⟨⟨_, rfl, .inl ⟨rfl, KA.out⟩⟩, hbl⟩
theorem idxCopHas (w : World) (a : Option Addr) (n cap : Nat) (rs : List K2) (f : Nat → Bool) (hn : n ≤ maxLen) (hs : SlK w w.heap.size a n rs) (hf : idxCopF w n rs f) :
    Calls Tryz.prog 285 #[.slice a n cap, .func (.func 282) #[] #[]] w fun e w' => e = .returned (.bool (!((List.range n).all fun j => !f j))) ∧ Below w.heap.size w w' := by
  have hi := idxCop w a n cap rs f hn hs hf
  clear hs hf
  go_enter Tryz.func285, Tryz.ntmps285
  go_wp2_with fail
  refine hi.mono ?_
  clear hi
  rintro e w1 ⟨⟨i, rfl, hb0⟩, b1⟩
  have hb := first_has hb0
  clear hb0
  generalize hV : (!((List.range n).all fun j => !f j)) = V at hb
  go_wp2
  go_ret
  exact ⟨by rw [hV]; rfl, b1⟩
def idxNumF (w : World) (n : Nat) (rs : List Int)  (f : Nat → Bool) : Prop :=
  ∀ (X : World) (i : Nat) , Below w.heap.size w X → i < n → True → Calls Tryz.prog 289 #[.int .i64 (atN rs i)] X fun e w' => e = .returned (.bool (f i)) ∧ Below X.heap.size X w'
set_option maxHeartbeats 2000000 in
theorem idxNum (w : World) (a : Option Addr) (n cap : Nat) (rs : List Int)  (f : Nat → Bool) (hn : n ≤ maxLen) (hs : SlN w w.heap.size a n rs) (hf : idxNumF w n rs  f) :
    Calls Tryz.prog 303 #[.slice a n cap, .func (.func 289) #[] #[]] w fun e w' => (∃ i : Int, e = .returned (.int .i64 i) ∧ FirstAt f n i) ∧ Below w.heap.size w w' := by
  unfold maxLen at hn
  obtain ⟨hx, hs⟩ := hs
  have HF := hidOf hf
  clear hf
  go_enter Tryz.func303, Tryz.ntmps303
  go_wp2
  go_loopw [8] (fun v wr => ∃ j : Nat, j ≤ n ∧ v = .int .i64 j ∧ Below w.heap.size w wr ∧ ∀ i, i < j → f i = false) (fun v _ => n - (intOf v).toNat)
  case atStart => exact ⟨0, Nat.zero_le _, rfl, Below.refl _ _, fun i h => absurd h (by omega)⟩
  case round =>
    obtain ⟨j, hj, rfl, hbl, hall⟩ := hrel
    by_cases hlt : j < n
    · rcases hs with hs | ⟨b, off, rfl, hb, h1⟩
      · omega
      · have c0 := (hbl.cell (p := ⟨b, off + j, none⟩) hb).trans (h1 j _ (atN_of (by omega)))
        have KA : Hid ((∀ i, i < j → f i = false) ∧ Below w.heap.size w wr) := ⟨hall, hbl⟩
        have hw := HF.out wr j hbl hlt trivial
        clear h1 hall hbl
        cases hp : f j with
        | true =>
          rw [hp] at hw
          go_wp2_with fail
          refine hw.mono ?_
          clear hw
          rintro e w1 ⟨rfl, b1⟩
          go_wp2
          go_ret
          exact ⟨⟨_, rfl, .inr ⟨j, rfl, hlt, hp, KA.out.1⟩⟩, KA.out.2.trans (b1.mono KA.out.2.size)⟩
        | false =>
          rw [hp] at hw
          go_wp2_with fail
          refine hw.mono ?_
          clear hw
          rintro e w1 ⟨rfl, b1⟩
          go_wp2
          exact ⟨⟨j + 1, by omega, by simp, KA.out.2.trans (b1.mono KA.out.2.size), fun i hi => by
            by_cases e : i = j
            · rw [e]; exact hp
            · exact KA.out.1 i (by omega)⟩, by simp [intOf]; omega⟩
    · have : j = n := by omega
      subst this
      have hd : decide ((j : Int) < (j : Int)) = false := by simp
      have KA : Hid (∀ i, i < j → f i = false) := hall
      clear hs hall
      go_wp2
      go_ret
      exact ⟨⟨_, rfl, .inl ⟨rfl, KA.out⟩⟩, hbl⟩
theorem idxNumHas (w : World) (a : Option Addr) (n cap : Nat) (rs : List Int) (f : Nat → Bool) (hn : n ≤ maxLen) (hs : SlN w w.heap.size a n rs) (hf : idxNumF w n rs f) :
    Calls Tryz.prog 292 #[.slice a n cap, .func (.func 289) #[] #[]] w fun e w' => e = .returned (.bool (!((List.range n).all fun j => !f j))) ∧ Below w.heap.size w w' := by
  have hi := idxNum w a n cap rs f hn hs hf
  clear hs hf
  go_enter Tryz.func292, Tryz.ntmps292
  go_wp2_with fail
  refine hi.mono ?_
  clear hi
  rintro e w1 ⟨⟨i, rfl, hb0⟩, b1⟩
  have hb := first_has hb0
  clear hb0
  generalize hV : (!((List.range n).all fun j => !f j)) = V at hb
  go_wp2
  go_ret
  exact ⟨by rw [hV]; rfl, b1⟩
end Go.Proofs.YtnhjgomfkfehgaaGreatDoor