import Derived.Test.YtcbfnajpcaipkaaRows
import Derived.Test.YtcbfnajpcaipkaaJ18ExactNewCluster
import Derived.WalkKit
import Derived.WalkSpells
import Derived.WalkLawsBesides
import Derived.Below
import Derived.Lib.QuietBelow
import Derived.BigQuiet
import Derived.Deep.CutRange
import Derived.LaidEql
import Derived.RowKitTokens
import Derived.Deep.Upon
import Derived.Deep.RegionWith
namespace Go.Proofs.Ytcbfnajpcaipkaa
open Go.RowKit
open Go.Sort (grow)
theorem At.far0 {X : World} {b o p : Nat} {cs : List Value} (h : At X b o cs) (hp : p < o ∨ o + cs.length ≤ p) (u : Value) : At (X.setCell ⟨b, p, none⟩ u) b o cs := fun j v hv => by
  have hj : j < cs.length := (List.getElem?_eq_some_iff.1 hv).1
  exact (cell_set_other (by omega)).trans (h j v hv)
theorem At.put0 {X : World} {b o i : Nat} {cs : List Value} (h : At X b o cs) (hi : i < cs.length) (u : Value) : At (X.setCell ⟨b, o + i, none⟩ u) b o (cs.set i u) := fun j v hv => by
  by_cases e : j = i
  · subst e
    rw [List.getElem?_set_self hi] at hv
    obtain rfl := Option.some.inj hv
    exact cell_set_same (h j _ (List.getElem?_eq_getElem hi))
  · rw [List.getElem?_set_ne (fun e' => e e'.symm)] at hv
    exact (cell_set_other (by omega)).trans (h j v hv)
structure NmI (B m : Nat) (X : World) (L : Nat → List K2) (v : Nat → Value) (gk : Nat → Nat → Nat) : Prop where
  rm : Room X B (m * 4)
  at_ : ∀ a, a < m → At X B (a * 4) [.bool true, v a, .slice none 0 0, .slice none 0 0]
  gr : ∀ a, a < m → GrowG 68 2 hdK lnK AtK X (B + 1) (v a) (L a) (gk a)
  ap : ∀ a c q, a < m → c < m → a ≠ c → blocksG (v a) (L a) (gk a) q → ¬ blocksG (v c) (L c) (gk c) q
  lt : B < X.heap.size
theorem NmI.later {B m : Nat} {X Y : World} {L : Nat → List K2} {v : Nat → Value} {gk : Nat → Nat → Nat} (h : NmI B m X L v gk) (hb : Below X.heap.size X Y) : NmI B m Y L v gk :=
  ⟨h.rm.of_block (hb.block B h.lt), fun a ha => (h.at_ a ha).of_block (hb.block B h.lt), fun a ha => (h.gr a ha).later AtK.of_block hb, h.ap, Nat.lt_of_lt_of_le h.lt hb.size⟩
theorem GrowG.form0 {X : World} {base : Nat} {v : Value} {ks : List K2} {g : Nat → Nat} (h : GrowG 68 2 hdK lnK AtK X base v ks g) : ∃ a c, v = .slice a ks.length c := by
  obtain ⟨caps, ho, _⟩ := h.row
  rcases ho.2 with ⟨rfl, h0⟩ | ⟨q, cap, cur, rfl, _⟩
  · exact ⟨none, 0, by rw [h0]⟩
  · exact ⟨_, _, rfl⟩
theorem NmI.push {B m : Nat} {X W : World} {L : Nat → List K2} {v : Nat → Value} {gk : Nat → Nat → Nat} (h : NmI B m X L v gk) (hb : Below X.heap.size X W) {x : Nat} (hx : x < m) (k : K2) (q cap e : Nat) (hm : (L x).length ≤ 100000) (ty : TypeId)
    (e0 : W.cell? ⟨e, 0, none⟩ = some (.int .i64 k.region)) (e1 : W.cell? ⟨e, 1, none⟩ = some (.slice (some ⟨q, 0, none⟩) k.cells.length cap)) (hat : AtK W q k) (hc : k.cells.length ≤ cap) (hq : X.heap.size ≤ q) (hql : q < W.heap.size) :
    ∃ v' Y, (Builtin.append_ #[57, 57] ty #[v x, .slice (some ⟨e, 0, none⟩) 1 1]).run Try.prog W = .ok v' Y ∧ Y.heap[B]? = W.heap[B]? ∧ W.heap.size ≤ Y.heap.size ∧ NmI B m (Y.setCell ⟨B, x * 4 + 1, none⟩ v') (fun a => if a = x then L x ++ [k] else L a) (fun a => if a = x then v' else v a) (fun a => if a = x then (fun i => if i = (L x).length then q else gk x i) else gk a) ∧ (∀ w : World, Below w.heap.size w W → w.heap.size ≤ B → Below w.heap.size w (Y.setCell ⟨B, x * 4 + 1, none⟩ v')) ∧ ∃ a' c', v' = .slice a' ((L x).length + 1) c' := by
  have hW := h.later hb
  obtain ⟨i0, hi0, hz0, hz1, hz2⟩ := partsOf info_cops
  have hXB := h.lt
  have hbs := hb.size
  have bk : ∀ a, a < m → ∀ y, blocksG (v a) (L a) (gk a) y → B + 1 ≤ y ∧ y < X.heap.size := fun a ha y hy => (h.gr a ha).blocks hy
  obtain ⟨v', Y, hr, hg, hgr, hl⟩ := GrowG.push (hd := hdK) (ln := lnK) (sz := 2) (e := e) AtK.of_block (fun _ => rfl) Try.underlying57 hi0 hz0 hz1 hz2 rfl (by omega) (hW.gr x hx) k q cap hm ty (fun j u hu => by
    rcases j with _ | _ | j
    · simp [cellsG, hdK] at hu; subst hu; exact e0
    · simp [cellsG, hdK, lnK] at hu; subst hu; exact e1
    · simp [cellsG, hdK] at hu) hat hc (by omega) hql (fun e' => by have := bk x hx q (.inl e'); omega) (fun i hi e' => by have := bk x hx q (.inr ⟨i, hi, e'⟩); omega) (by omega)
  have new : ∀ y, blocksG v' (L x ++ [k]) (fun i => if i = (L x).length then q else gk x i) y → blocksG (v x) (L x) (gk x) y ∨ X.heap.size ≤ y := fun y hy => by
    rcases blocks_push hl hy with h' | h' | h'
    · exact .inl h'
    · exact .inr (by omega)
    · exact .inr (by omega)
  have far : ∀ y, y < W.heap.size → (v x).ownBlock ≠ some y → Y.heap[y]? = W.heap[y]? := fun y hy hne => hgr.block y hy (fun e' => hne e'.symm)
  have hB : Y.heap[B]? = W.heap[B]? := far B (by omega) (fun e' => by have := bk x hx B (.inl e'); omega)
  have sb : ∀ y, y ≠ B → (Y.setCell ⟨B, x * 4 + 1, none⟩ v').heap[y]? = Y.heap[y]? := fun y hy => Below.heap_setCell _ _ _ _ hy
  have sz : (Y.setCell ⟨B, x * 4 + 1, none⟩ v').heap.size = Y.heap.size := by simp [World.setCell]
  refine ⟨v', Y, hr, hB, hgr.size, ⟨(hW.rm.of_block hB).set _, fun a ha => ?_, fun a ha => ?_, fun a c y ha hc' hac h1 h2 => ?_, by rw [sz]; have := hgr.size; omega⟩, fun w bw hw => (bw.grown hgr bw.size (fun y hy => by have := bk x hx y (.inl hy); omega)).setCell (p := ⟨B, x * 4 + 1, none⟩) hw _, by obtain ⟨a', c', e⟩ := hg.form0; exact ⟨a', c', by rw [e]; simp⟩⟩
  · have ho := (hW.at_ a ha).of_block hB
    by_cases ea : a = x
    · subst ea
      simp only [if_true]
      exact At.put0 ho (i := 1) (by simp) v'
    · simp only [if_neg ea]
      exact ho.far0 (by simp only [List.length_cons, List.length_nil]; omega) v'
  · by_cases ea : a = x
    · subst ea
      simp only [if_true]
      exact hg.keep AtK.of_block (by rw [sz]; exact Nat.le_refl _) (fun y _ hy => sb y (by have := (hg.blocks hy).1; omega))
    · simp only [if_neg ea]
      exact (hW.gr a ha).keep AtK.of_block (by rw [sz]; exact hgr.size) (fun y hy hb' => (sb y (by have := bk a ha y hb'; omega)).trans (far y hy (fun e' => h.ap x a y hx ha (fun e => ea e.symm) (.inl e') hb')))
  · by_cases ea : a = x
    · have ec : c ≠ x := fun e => hac (ea.trans e.symm)
      simp only [if_pos ea] at h1
      simp only [if_neg ec] at h2
      rcases new y h1 with h' | h'
      · exact h.ap x c y hx hc' (fun e => ec e.symm) h' h2
      · have := bk c hc' y h2; omega
    · by_cases ec : c = x
      · simp only [if_neg ea] at h1
        simp only [if_pos ec] at h2
        rcases new y h2 with h' | h'
        · exact h.ap a x y ha hx ea h1 h'
        · have := bk a ha y h1; omega
      · simp only [if_neg ea] at h1
        simp only [if_neg ec] at h2
        exact h.ap a c y ha hc' hac h1 h2
theorem NmI.same {B m : Nat} {X : World} {L L' : Nat → List K2} {v : Nat → Value} {gk : Nat → Nat → Nat} (h : NmI B m X L v gk) (e : ∀ a, a < m → L' a = L a) : NmI B m X L' v gk :=
  ⟨h.rm, h.at_, fun a ha => by rw [e a ha]; exact h.gr a ha, fun a c q ha hc hac => by rw [e a ha, e c hc]; exact h.ap a c q ha hc hac, h.lt⟩
theorem own_of_gr {X : World} {base : Nat} {a : Option Addr} {c : Nat} {ks : List K2} {g : Nat → Nat} (h : GrowG 68 2 hdK lnK AtK X base (.slice a ks.length c) ks g) : KMk.Ow X base ⟨a, c, none, 0, none, 0⟩ ⟨true, ks, [], []⟩ (blocksG (.slice a ks.length c) ks g) := by
  have hm : MR base X.heap.size X (.slice a ks.length c) (.slice none 0 0) (.slice none 0 0) ks [] [] g gz0 := ⟨h, GrowG.nil _ _ _, ⟨rfl, .inl ⟨rfl, rfl⟩⟩, (fun q _ h' => by rcases h' with h' | ⟨i, hi, _⟩; cases h'; simp at hi), (fun q _ h' => by cases h'), (fun q _ h' => by cases h'), fun q hq => Nat.ne_of_lt (h.blocks hq).2, (fun q h' => by rcases h' with h' | ⟨i, hi, _⟩; cases h'; simp at hi), (fun h' => by cases h')⟩
  refine ⟨_, _, _, hm.om (v := ⟨a, c, none, 0, none, 0⟩) (m := ⟨true, ks, [], []⟩), fun q hq => ?_, fun q hq => h.blocks hq⟩
  rcases hq with hq | hq | hq
  · exact hq
  · rcases hq with h' | ⟨i, hi, _⟩
    · cases h'
    · simp at hi
  · cases hq
theorem NmI.ow {B n m : Nat} {X : World} {zss : List (List Int)} {v : Nat → Value} {gk : Nat → Nat → Nat} (h : NmI B m X (fun a => ncKs zss a n) v gk) : ∃ P, KMk.OwS X B (some ⟨B, 0, none⟩) (ncMs zss n m) P := by
  have hl : (ncMs zss n m).length = m := by simp [ncMs]
  have hget : ∀ i d, (ncMs zss n m)[i]? = some d → i < m ∧ d = ncM zss n i := fun i d hd => by
    have hi := (List.getElem?_eq_some_iff.1 hd).1
    rw [hl] at hi
    refine ⟨hi, ?_⟩
    simp [ncMs, hi] at hd
    exact hd.symm
  refine ⟨fun q => q = B ∨ ∃ a, a < m ∧ blocksG (v a) (ncKs zss a n) (gk a) q, .inr ⟨B, fun a => blocksG (v a) (ncKs zss a n) (gk a), rfl, .inl rfl, ⟨by rw [hl]; exact h.rm, fun i d hd => ?_, fun i q hi hq => ?_, fun i j q hi hj hij => h.ap i j q (by omega) (by omega) hij⟩, fun i q hi hq => .inr ⟨i, by omega, hq⟩⟩, fun q hq => ?_⟩
  · obtain ⟨hi, rfl⟩ := hget i d hd
    obtain ⟨a, c, hv⟩ := (h.gr i hi).form0
    have hat := h.at_ i hi
    have hgr := h.gr i hi
    rw [hv] at hat hgr
    refine ⟨⟨a, c, none, 0, none, 0⟩, hat, ?_⟩
    show KMk.Ow X B _ _ (blocksG (v i) (ncKs zss i n) (gk i))
    rw [hv]
    exact KMk.low (own_of_gr hgr) (by omega)
  · have := (h.gr i (by omega)).blocks hq; omega
  · rcases hq with rfl | ⟨a, ha, hq⟩
    · exact ⟨Nat.le_refl _, h.lt⟩
    · have := (h.gr a ha).blocks hq; omega
def ncKt (zss : List (List Int)) (r t a : Nat) : List K2 := ncKs zss a r ++ (if has3 ((atP zss r).take t) (a : Int) = true then [⟨(r : Int), zeros⟩] else [])
theorem ncKt_zero (zss : List (List Int)) (r a : Nat) : ncKt zss r 0 a = ncKs zss a r := by simp [ncKt, has3]
theorem ncKt_full (zss : List (List Int)) (r a : Nat) : ncKt zss r (atP zss r).length a = ncKs zss a (r + 1) := by
  unfold ncKt
  rw [List.take_length]
  cases h : has3 (atP zss r) (a : Int) with
  | true => rw [ncKs_yes h]; rfl
  | false => rw [ncKs_no h]; simp
theorem has3_snoc (zs : List Int) (z y : Int) : has3 (zs ++ [z]) y = (has3 zs y || decide (z = y)) := by simp [has3]
theorem row_at {r m t : Nat} {k : Nat} (ht : t < k) : (spreadRow r m k)[t]? = some (((r + t) % m : Nat) : Int) := by simp [spreadRow, ht]
theorem atP_spread {n m r : Nat} (hr : r < n) : atP (spreadN n m) r = spreadRow r m (min m 3) := by simp [atP, spreadN, hr]
theorem mod_ne {r m s t : Nat} (hs : s < t) (ht : t < min m 3) (hm : m ≤ 8) : (r + s) % m ≠ (r + t) % m := by
  have h1 : s < t ∧ t < m ∧ t < 3 := by omega
  rcases (show m = 0 ∨ m = 1 ∨ m = 2 ∨ m = 3 ∨ m = 4 ∨ m = 5 ∨ m = 6 ∨ m = 7 ∨ m = 8 by omega) with rfl | rfl | rfl | rfl | rfl | rfl | rfl | rfl | rfl <;> omega
theorem ncKt_step {n m r t : Nat} (hr : r < n) (ht : t < min m 3) (hm : m ≤ 8) (a : Nat) : ncKt (spreadN n m) r (t + 1) a = if a = (r + t) % m then ncKt (spreadN n m) r t ((r + t) % m) ++ [⟨(r : Int), zeros⟩] else ncKt (spreadN n m) r t a := by
  unfold ncKt
  rw [atP_spread hr, List.take_add_one, row_at ht]
  simp only [Option.toList_some, has3_snoc]
  have hoff : has3 ((spreadRow r m (min m 3)).take t) (((r + t) % m : Nat) : Int) = false := by
    refine has3_off (fun s hs e => ?_)
    rw [List.length_take, spreadRow_len] at hs
    have hst : s < t := by omega
    have h1 : atN ((spreadRow r m (min m 3)).take t) s = (((r + s) % m : Nat) : Int) := by
      unfold atN
      rw [List.getElem?_take_of_lt hst, row_at (by omega)]
      rfl
    rw [h1] at e
    exact mod_ne hst ht hm (by exact_mod_cast e)
  by_cases ea : a = (r + t) % m
  · subst ea
    rw [if_pos rfl, hoff]
    simp
  · have h2 : decide ((((r + t) % m : Nat) : Int) = (a : Int)) = false := by
      rw [decide_eq_false_iff_not]
      intro e
      exact ea (by exact_mod_cast e.symm)
    rw [if_neg ea, h2, Bool.or_false]
theorem ncKt_len (zss : List (List Int)) (r t a : Nat) : (ncKt zss r t a).length ≤ r + 1 := by
  unfold ncKt
  rw [List.length_append]
  have := ncKs_len zss a r
  split <;> simp <;> omega
end Go.Proofs.Ytcbfnajpcaipkaa
