/- NumMark; Pls: joined. -/
import Derived.Test.YtcbfnajpcaipkaaRows
import Derived.Test.YtcbfnajpcaipkaaJ0ExactNewCluster
import Derived.WalkKit
import Derived.WalkSpells
import Derived.WalkLawsBesides
import Derived.Below
namespace Go.Proofs.Ytcbfnajpcaipkaa
open Go.RowKit
def marks : Nat → Int → List Int
  | 0, _ => []
  | n + 1, k => k :: marks n (k + 1)
theorem marks_len : ∀ (n : Nat) (k : Int), (marks n k).length = n
  | 0, _ => rfl
  | n + 1, k => by simp [marks, marks_len n]
theorem marks_at : ∀ (n : Nat) (k : Int) (i : Nat), i < n → (marks n k)[i]? = some (k + i)
  | 0, _, _, h => by omega
  | n + 1, k, 0, _ => by simp [marks]
  | n + 1, k, i + 1, h => by
    rw [marks, List.getElem?_cons_succ, marks_at n (k + 1) i (by omega)]
    congr 1; omega
set_option maxHeartbeats 1000000 in
theorem markInt64S_own (w : World) (g n cap : Nat) (k : Int) (hn : n ≤ 1048576) (hk : 0 ≤ k) (hk' : k ≤ 1000000000) (hr : Room w g n) :
    Calls Try.prog 50 #[.slice (some ⟨g, 0, none⟩) n cap, .int .i64 k] w fun e w' => e = .returned (.int .i64 (k + n)) ∧ OnlyBlock g w w' ∧ NumsAt w' g 0 (marks n k) ∧ Room w' g n := by
  go_enter Try.func50, Try.ntmps50
  go_wp2
  go_loopw [1, 5] (fun v1 v5 wr => ∃ j : Nat, j ≤ n ∧ v5 = .int .i64 j ∧ v1 = .int .i64 (k + j) ∧ OnlyBlock g w wr ∧ Room wr g n ∧ NumsAt wr g 0 ((marks n k).take j)) (fun _ v5 _ => n - (intOf v5).toNat)
  case atStart => exact ⟨0, Nat.zero_le _, rfl, by simp, OnlyBlock.refl _ _, hr, fun i s e => by simp at e⟩
  case round =>
    obtain ⟨j, hj, rfl, rfl, ho, hro, hdo⟩ := hrel
    by_cases hlt : j < n
    · obtain ⟨v, d, f⟩ := hro j hlt
      have K : Hid (OnlyBlock g w wr ∧ Room wr g n ∧ NumsAt wr g 0 ((marks n k).take j)) := ⟨ho, hro, hdo⟩
      clear ho hro hdo hr
      go_wp2
      obtain ⟨ho, hro, hdo⟩ := K.out
      exact ⟨⟨j + 1, by omega, by simp, by simp; omega, ho.setCell _ _, hro.set _, hdo.put (marks_at n k j hlt) d⟩, by simp [intOf]; omega⟩
    · have : j = n := by omega
      subst this
      have hd : decide ((j : Int) < (j : Int)) = false := by simp
      rw [show (marks j k).take j = marks j k from List.take_of_length_le (by rw [marks_len]; omega)] at hdo
      have K : Hid (OnlyBlock g w wr ∧ NumsAt wr g 0 (marks j k) ∧ Room wr g j) := ⟨ho, hdo, hro⟩
      clear ho hdo hro hr
      go_wp2
      go_ret
      exact ⟨by simp, K.out.1, K.out.2.1, K.out.2.2⟩
set_option maxHeartbeats 1000000 in
theorem markInt64S_none (w : World) (a : Option Addr) (cap : Nat) (k : Int) : Calls Try.prog 50 #[.slice a 0 cap, .int .i64 k] w fun e w' => e = .returned (.int .i64 k) ∧ w' = w := by
  go_enter Try.func50, Try.ntmps50
  go_wp2
  go_loop [1, 5] (fun v1 v5 => v5 = .int .i64 0 ∧ v1 = .int .i64 k) (fun _ _ => 0)
  case atStart => exact ⟨rfl, rfl⟩
  case round =>
    obtain ⟨rfl, rfl⟩ := hrel
    go_wp2
    go_ret
    exact ⟨rfl, rfl⟩
def PlsAt (w : World) (B b off : Nat) (zss : List (List Int)) : Prop := ∀ i zs, zss[i]? = some zs → ∃ a cap, w.cell? ⟨b, off + i, none⟩ = some (.slice a zs.length cap) ∧ SlN w B a zs.length zs ∧ zs.length ≤ cap
def SlP (w : World) (B : Nat) (a : Option Addr) (n : Nat) (zss : List (List Int)) : Prop := zss.length = n ∧ (n = 0 ∨ ∃ b off, a = some ⟨b, off, none⟩ ∧ b < B ∧ PlsAt w B b off zss)
theorem SlN.below {w w' : World} {B : Nat} {a : Option Addr} {n : Nat} {zs : List Int} (h : SlN w B a n zs) (hb : Below B w w') : SlN w' B a n zs := by
  obtain ⟨h1, h2⟩ := h
  refine ⟨h1, ?_⟩
  rcases h2 with h2 | ⟨b, off, ha, hB, hx⟩
  · exact .inl h2
  · exact .inr ⟨b, off, ha, hB, hx.below hb hB⟩
theorem SlN.mono {w : World} {B B' : Nat} {a : Option Addr} {n : Nat} {zs : List Int} (h : SlN w B a n zs) (hB : B ≤ B') : SlN w B' a n zs := by
  obtain ⟨h1, h2⟩ := h
  refine ⟨h1, ?_⟩
  rcases h2 with h2 | ⟨b, off, ha, hb, hx⟩
  · exact .inl h2
  · exact .inr ⟨b, off, ha, by omega, hx⟩
theorem PlsAt.below {w w' : World} {B b off : Nat} {zss : List (List Int)} (h : PlsAt w B b off zss) (hb : Below B w w') (hB : b < B) : PlsAt w' B b off zss := fun i zs e => by
  obtain ⟨a, cap, h1, h2, h3⟩ := h i zs e
  exact ⟨a, cap, (hb.cell (p := ⟨b, off + i, none⟩) hB).trans h1, h2.below hb, h3⟩
theorem PlsAt.mono {w : World} {B B' b off : Nat} {zss : List (List Int)} (h : PlsAt w B b off zss) (hB : B ≤ B') : PlsAt w B' b off zss := fun i zs e => by
  obtain ⟨a, cap, h1, h2, h3⟩ := h i zs e
  exact ⟨a, cap, h1, h2.mono hB, h3⟩
theorem SlP.below {w w' : World} {B : Nat} {a : Option Addr} {n : Nat} {zss : List (List Int)} (h : SlP w B a n zss) (hb : Below B w w') : SlP w' B a n zss := by
  obtain ⟨h1, h2⟩ := h
  refine ⟨h1, ?_⟩
  rcases h2 with h2 | ⟨b, off, ha, hB, hx⟩
  · exact .inl h2
  · exact .inr ⟨b, off, ha, hB, hx.below hb hB⟩
theorem SlP.mono {w : World} {B B' : Nat} {a : Option Addr} {n : Nat} {zss : List (List Int)} (h : SlP w B a n zss) (hB : B ≤ B') : SlP w B' a n zss := by
  obtain ⟨h1, h2⟩ := h
  refine ⟨h1, ?_⟩
  rcases h2 with h2 | ⟨b, off, ha, hb, hx⟩
  · exact .inl h2
  · exact .inr ⟨b, off, ha, by omega, hx.mono hB⟩
theorem SlP.later {w w' : World} {a : Option Addr} {n : Nat} {zss : List (List Int)} (h : SlP w w.heap.size a n zss) (hb : Below w.heap.size w w') : SlP w' w'.heap.size a n zss := (h.below hb).mono hb.size
def atP (zss : List (List Int)) (i : Nat) : List Int := zss[i]?.getD []
theorem atP_of {zss : List (List Int)} {i : Nat} (h : i < zss.length) : zss[i]? = some (atP zss i) := by simp [atP, List.getElem?_eq_getElem h]
def lens (zss : List (List Int)) : Nat := (zss.map List.length).sum
theorem lens_take_succ {zss : List (List Int)} {j : Nat} (h : j < zss.length) : lens (zss.take (j + 1)) = lens (zss.take j) + (atP zss j).length := by
  rw [List.take_add_one, atP_of h]; simp [lens]
theorem lens_take_le (zss : List (List Int)) (j : Nat) : lens (zss.take j) ≤ lens zss := by
  have e : lens zss = lens (zss.take j) + lens (zss.drop j) := by
    rw [lens, lens, lens, ← List.sum_append, ← List.map_append, List.take_append_drop]
  omega
theorem lens_mem {zss : List (List Int)} {zs : List Int} (h : zs ∈ zss) : zs.length ≤ lens zss := by
  obtain ⟨i, hi, rfl⟩ := List.getElem_of_mem h
  have h1 := lens_take_succ hi
  have h2 := lens_take_le zss (i + 1)
  have e : atP zss i = zss[i] := by simp [atP, hi]
  rw [e] at h1
  omega
structure OwnP (w : World) (base b n : Nat) (zss : List (List Int)) (g : Nat → Nat) : Prop where
  len : zss.length = n
  cell : ∀ i zs, zss[i]? = some zs → ∃ cap, w.cell? ⟨b, i, none⟩ = some (.slice (some ⟨g i, 0, none⟩) zs.length cap) ∧ zs.length ≤ cap
  low : ∀ i, i < n → base ≤ g i
  lt : ∀ i, i < n → g i < w.heap.size
  ne : ∀ i, i < n → g i ≠ b
  nums : ∀ i zs, zss[i]? = some zs → NumsAt w (g i) 0 zs
  room : ∀ i zs, zss[i]? = some zs → Room w (g i) zs.length
  inj : ∀ i j, i < n → j < n → g i = g j → i = j
theorem OwnP.at {w : World} {base b n : Nat} {zss : List (List Int)} {g : Nat → Nat} (h : OwnP w base b n zss g) (B : Nat) (hB : w.heap.size ≤ B) : PlsAt w B b 0 zss := fun i zs e => by
  obtain ⟨cap, hc, hcp⟩ := h.cell i zs e
  have hi : i < n := by have := (List.getElem?_eq_some_iff.1 e).1; have := h.len; omega
  exact ⟨_, cap, by rw [Nat.zero_add]; exact hc, ⟨rfl, .inr ⟨g i, 0, rfl, by have := h.lt i hi; omega, h.nums i zs e⟩⟩, hcp⟩
theorem OwnP.sl {w : World} {base b n : Nat} {zss : List (List Int)} {g : Nat → Nat} (h : OwnP w base b n zss g) (hb : b < w.heap.size) : SlP w w.heap.size (some ⟨b, 0, none⟩) n zss :=
  ⟨h.len, .inr ⟨b, 0, rfl, hb, h.at _ (Nat.le_refl _)⟩⟩
theorem NumsAt.of_block {w w' : World} {b off : Nat} {zs : List Int} (h : NumsAt w b off zs) (e : w'.heap[b]? = w.heap[b]?) : NumsAt w' b off zs := fun i z hz => (World.cell?_of_block (a := ⟨b, off + i, none⟩) e).trans (h i z hz)
theorem Room.of_block {w w' : World} {b m : Nat} (h : Room w b m) (e : w'.heap[b]? = w.heap[b]?) : Room w' b m := fun j hj => by
  obtain ⟨v, h1, h2⟩ := h j hj
  exact ⟨v, (World.cell?_of_block (a := ⟨b, j, none⟩) e).trans h1, (World.frozen?_of_block (a := ⟨b, j, none⟩) e).trans h2⟩
theorem OwnP.of_blocks {w w' : World} {base b n : Nat} {zss : List (List Int)} {g : Nat → Nat} (h : OwnP w base b n zss g) (hs : w.heap.size ≤ w'.heap.size) (eb : w'.heap[b]? = w.heap[b]?) (eg : ∀ i, i < n → w'.heap[g i]? = w.heap[g i]?) : OwnP w' base b n zss g := by
  have hi : ∀ i zs, zss[i]? = some zs → i < n := fun i zs e => by have := (List.getElem?_eq_some_iff.1 e).1; have := h.len; omega
  refine ⟨h.len, fun i zs e => ?_, h.low, fun i hi => Nat.lt_of_lt_of_le (h.lt i hi) hs, h.ne, fun i zs e => (h.nums i zs e).of_block (eg i (hi i zs e)), fun i zs e => (h.room i zs e).of_block (eg i (hi i zs e)), h.inj⟩
  obtain ⟨cap, hc, hcp⟩ := h.cell i zs e
  exact ⟨cap, (World.cell?_of_block (a := ⟨b, i, none⟩) eb).trans hc, hcp⟩
theorem OwnP.later {w w' : World} {base b n : Nat} {zss : List (List Int)} {g : Nat → Nat} (h : OwnP w base b n zss g) (hb : Below w.heap.size w w') (hlt : b < w.heap.size) : OwnP w' base b n zss g :=
  h.of_blocks hb.size (hb.block b hlt) (fun i hi => hb.block _ (h.lt i hi))
theorem OwnP.snoc {w : World} {base b j : Nat} {zss : List (List Int)} {g : Nat → Nat} {zs : List Int} {q cap : Nat} (h : OwnP w base b j zss g) (hc : w.cell? ⟨b, j, none⟩ = some (.slice (some ⟨q, 0, none⟩) zs.length cap)) (hcp : zs.length ≤ cap)
    (hq : base ≤ q) (hl : q < w.heap.size) (hn : q ≠ b) (hx : NumsAt w q 0 zs) (hr : Room w q zs.length) (hf : ∀ i, i < j → g i ≠ q) : OwnP w base b (j + 1) (zss ++ [zs]) (fun i => if i = j then q else g i) := by
  have hlen := h.len
  have split : ∀ i ys, (zss ++ [zs])[i]? = some ys → (i < j ∧ zss[i]? = some ys) ∨ (i = j ∧ ys = zs) := fun i ys e => by
    by_cases hi : i < zss.length
    · rw [List.getElem?_append_left hi] at e
      exact .inl ⟨by omega, e⟩
    · rw [List.getElem?_append_right (by omega)] at e
      have h0 : i - zss.length = 0 := by
        rcases Nat.eq_zero_or_pos (i - zss.length) with h | h
        · exact h
        · rw [List.getElem?_eq_none (by simp; omega)] at e; cases e
      rw [h0] at e
      simp at e
      exact .inr ⟨by omega, e.symm⟩
  refine ⟨by simp [hlen], fun i ys e => ?_, fun i hi => ?_, fun i hi => ?_, fun i hi => ?_, fun i ys e => ?_, fun i ys e => ?_, fun i k hi hk e => ?_⟩
  · rcases split i ys e with ⟨hi, e⟩ | ⟨rfl, rfl⟩
    · rw [if_neg (by omega)]; exact h.cell i ys e
    · rw [if_pos rfl]; exact ⟨cap, hc, hcp⟩
  · by_cases e : i = j
    · rw [if_pos e]; exact hq
    · rw [if_neg e]; exact h.low i (by omega)
  · by_cases e : i = j
    · rw [if_pos e]; exact hl
    · rw [if_neg e]; exact h.lt i (by omega)
  · by_cases e : i = j
    · rw [if_pos e]; exact hn
    · rw [if_neg e]; exact h.ne i (by omega)
  · rcases split i ys e with ⟨hi, e⟩ | ⟨rfl, rfl⟩
    · rw [if_neg (by omega)]; exact h.nums i ys e
    · rw [if_pos rfl]; exact hx
  · rcases split i ys e with ⟨hi, e⟩ | ⟨rfl, rfl⟩
    · rw [if_neg (by omega)]; exact h.room i ys e
    · rw [if_pos rfl]; exact hr
  · by_cases ei : i = j <;> by_cases ek : k = j
    · omega
    · simp only [if_pos ei, if_neg ek] at e; exact absurd e.symm (hf k (by omega))
    · simp only [if_neg ei, if_pos ek] at e; exact absurd e (hf i (by omega))
    · simp only [if_neg ei, if_neg ek] at e; exact h.inj i k (by omega) (by omega) e
theorem OwnP.nil (w : World) (base b : Nat) (g : Nat → Nat) : OwnP w base b 0 [] g :=
  ⟨rfl, fun i zs e => by simp at e, fun i h => by omega, fun i h => by omega, fun i h => by omega, fun i zs e => by simp at e, fun i zs e => by simp at e, fun i j h => by omega⟩
end Go.Proofs.Ytcbfnajpcaipkaa