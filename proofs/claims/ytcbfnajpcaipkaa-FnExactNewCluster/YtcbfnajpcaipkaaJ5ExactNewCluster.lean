/- Copy; NewCells; OwnG; MacTo1; MacTo2; MacTo3; MacTo4: joined. -/
import Derived.Laws.CopyOwn
import Derived.WalkKit
import Derived.Test.YtcbfnajpcaipkaaRows
import Derived.Test.YtcbfnajpcaipkaaJ1ExactNewCluster
import Derived.WalkSpells
import Derived.WalkLawsBesides
import Derived.Below
import Derived.Deep.Heap
import Derived.Deep.AppendLies
import Derived.Test.YtcbfnajpcaipkaaJ0ExactNewCluster
import Derived.Test.YtcbfnajpcaipkaaJ3ExactNewCluster
import Derived.Lib.QuietBelow
import Derived.BigQuiet
namespace Go.Proofs.Ytcbfnajpcaipkaa
theorem run_copy_wide {P : Program} (w : World) (dT sT ty elem : TypeId) (g o dLen dCap : Nat) (a : Addr) (sLen sCap : Nat) (cur : Array Value) (t : TypeId) (cs : List Value) (sz : Nat)
    (hu : P.underlying dT = some (.slice elem)) (hs : (P.info? elem).map (·.size) = some sz)
    (hg : w.heap[g]? = some (.cells cur t (0, 0))) (hn : cs.length = Nat.min sLen dLen * sz)
    (hsrc : ∀ j v, cs[j]? = some v → w.cell? (a.add j) = some v) (hfit : o + cs.length ≤ cur.size) (h1 : ∀ v ∈ cs, v.oneCell' = true) :
    (Builtin.copy_ #[dT, sT] ty #[.slice (some ⟨g, o, none⟩) dLen dCap, .slice (some a) sLen sCap]).run P w =
      .ok (goInt (Nat.min sLen dLen)) (w.setRow g (cur.toList.take o ++ cs ++ cur.toList.drop (o + cs.length)).toArray) := by
  have hl := run_loadCells_list (P := P) w a cs hsrc
  have hst := run_storeCells_at P g o t cs 0 cur w hg (by simpa using hfit) h1
  cases hq : P.info? elem with
  | none => simp [hq] at hs
  | some i =>
    have hi : i.size = sz := by simpa [hq] using hs
    simp [Builtin.copy_, run_underlying hu, Builtin.lenOf, Builtin.firstCells, sizeOf, typeInfo, hq, hi, ← hn, hl, hst]
end Go.Proofs.Ytcbfnajpcaipkaa
namespace Go.Proofs.Ytcbfnajpcaipkaa
open Go.RowKit
theorem info_cell_size : (Try.prog.info? 119).map (·.size) = some 2 := by kernel_rfl
theorem make_six : ∀ w : World, (Instr.makeSlice 65 (.int .i64 6) (.int .i64 6)).run Try.prog w = .ok (.slice (some ⟨w.heap.size, 0, none⟩) 6 6) (w.alloc (.cells (madeCells #[.int .i64 0, .int .i64 0] 12) 119)) := fun w => make_cells 6 (by omega) w
theorem specNewCells_any (w : World) : Calls Try.prog 32 #[] w fun e w' => e = .returned (.slice (some ⟨w.heap.size, 0, none⟩) 6 6) ∧ w' = w.alloc (.cells (madeCells #[.int .i64 0, .int .i64 0] 12) 119) := by
  have hmk := make_six
  go_enter Try.func32, Try.ntmps32
  go_wp2
  go_ret
  exact ⟨rfl, rfl⟩
set_option maxRecDepth 10000 in
set_option maxHeartbeats 1000000 in
theorem implList_any (w : World) (zs : List Value) (hz : zs.length = 12) (h1 : ∀ v ∈ zs, v.oneCell' = true) : Calls Try.prog 106 #[.agg zs.toArray] w fun e w' => e = .returned (.slice (some ⟨w.heap.size + 1, 0, none⟩) 6 6) ∧ Below w.heap.size w w' ∧ w'.heap[w.heap.size + 1]? = some (.cells zs.toArray 119 (0, 0)) := by
  have hmk := make_six
  have H1 : Hid (∀ v ∈ zs, v.oneCell' = true) := h1
  have HN : Hid (zs.length = Nat.min 6 6 * 2) := hz
  have HG : Hid (((w.alloc (.cells zs.toArray 121)).alloc (.cells (madeCells #[.int .i64 0, .int .i64 0] 12) 119)).heap[w.heap.size + 1]? = some (.cells (madeCells #[.int .i64 0, .int .i64 0] 12) 119 (0, 0))) := by
    have := Go.Deep.blk_alloc_new (w.alloc (.cells zs.toArray 121)) (.cells (madeCells #[.int .i64 0, .int .i64 0] 12) 119)
    unfold Hid
    have e : (w.alloc (.cells zs.toArray 121)).heap.size = w.heap.size + 1 := by simp
    rw [e] at this
    exact this
  have HS : Hid (∀ (j : Nat) (v : Value), zs[j]? = some v → ((w.alloc (.cells zs.toArray 121)).alloc (.cells (madeCells #[.int .i64 0, .int .i64 0] 12) 119)).cell? ((⟨w.heap.size, 0, none⟩ : Addr).add j) = some v) := by
    refine World.news_of_block (cs := zs.toArray) (t := 121) (fr := (0, 0)) ?_
    rw [Below.heap_alloc _ _ _ (by simp)]
    exact Go.Deep.blk_alloc_new w _
  have HF : Hid (0 + zs.length ≤ (madeCells #[.int .i64 0, .int .i64 0] 12).size) := by unfold Hid; rw [size_madeCells]; omega
  have b0 : Hid (Below w.heap.size w ((w.alloc (.cells zs.toArray 121)).alloc (.cells (madeCells #[.int .i64 0, .int .i64 0] 12) 119))) := ((Below.refl _ _).alloc (Nat.le_refl _) _).alloc (by simp) _
  have hl : ((madeCells #[.int .i64 0, .int .i64 0] 12).toList.take 0 ++ zs ++ (madeCells #[.int .i64 0, .int .i64 0] 12).toList.drop (0 + zs.length)).toArray = zs.toArray := by
    have : (madeCells #[.int .i64 0, .int .i64 0] 12).toList.drop (0 + zs.length) = [] := List.drop_eq_nil_of_le (by rw [Array.length_toList, size_madeCells]; omega)
    rw [this]; simp
  have hrun := run_copy_wide (P := Try.prog) _ 65 65 3 119 (w.heap.size + 1) 0 6 6 ⟨w.heap.size, 0, none⟩ 6 6 (madeCells #[.int .i64 0, .int .i64 0] 12) 119 zs 2 Try.underlying65 info_cell_size HG.out HN.out HS.out HF.out H1.out
  rw [hl] at hrun
  have HW : Hid ((((w.alloc (.cells zs.toArray 121)).alloc (.cells (madeCells #[.int .i64 0, .int .i64 0] 12) 119)).setRow (w.heap.size + 1) zs.toArray).heap[w.heap.size + 1]? = some (.cells zs.toArray 119 (0, 0)) ∧ Below w.heap.size w (((w.alloc (.cells zs.toArray 121)).alloc (.cells (madeCells #[.int .i64 0, .int .i64 0] 12) 119)).setRow (w.heap.size + 1) zs.toArray)) := ⟨setRow_heap _ _ _ _ _ _ HG.out, below_setRow b0.out (by omega) _⟩
  generalize ((w.alloc (.cells zs.toArray 121)).alloc (.cells (madeCells #[.int .i64 0, .int .i64 0] 12) 119)).setRow (w.heap.size + 1) zs.toArray = W at HW hrun
  clear h1 hz hl
  go_enter Try.func106, Try.ntmps106
  go_wp2
  go_ret
  exact ⟨rfl, HW.out.2, HW.out.1⟩
def zeros : List C2 := List.replicate 6 ⟨0, 0⟩
theorem zeros_made : (madeCells #[.int .i64 0, .int .i64 0] 12) = (zeros.flatMap C2.cells).toArray := by kernel_rfl
theorem implNewCells_any (w : World) : Calls Try.prog 75 #[] w fun e w' => e = .returned (.slice (some ⟨w.heap.size + 1, 0, none⟩) 6 6) ∧ Below w.heap.size w w' ∧ w'.heap[w.heap.size + 1]? = some (.cells (zeros.flatMap C2.cells).toArray 119 (0, 0)) := by
  go_enter Try.func75, Try.ntmps75
  go_wp2_with fail
  refine (implList_any w (zeros.flatMap C2.cells) rfl (by decide)).mono ?_
  rintro e w1 ⟨rfl, b1, h1⟩
  have K : Hid (w1.heap[w.heap.size + 1]? = some (.cells (zeros.flatMap C2.cells).toArray 119 (0, 0))) := h1
  clear h1
  go_wp2
  go_ret
  exact ⟨rfl, b1, K.out⟩
def markCell (j : Nat) : C2 := ⟨1 + 2 * (j : Int), 1 + 2 * (j : Int) + 1⟩
def markCells (n : Nat) : List C2 := (List.range n).map markCell
structure OwnG {α : Type} (sz : Nat) (hd : α → List Int) (ln : α → Nat) (At : World → Nat → α → Prop) (w : World) (base b n : Nat) (rs : List α) (g : Nat → Nat) : Prop where
  len : rs.length = n
  head : ∀ i r, rs[i]? = some r → ∀ t z, (hd r)[t]? = some z → w.cell? ⟨b, i * sz + t, none⟩ = some (.int .i64 z)
  tail : ∀ i r, rs[i]? = some r → ∃ cap, w.cell? ⟨b, i * sz + (sz - 1), none⟩ = some (.slice (some ⟨g i, 0, none⟩) (ln r) cap) ∧ ln r ≤ cap
  low : ∀ i, i < n → base ≤ g i
  lt : ∀ i, i < n → g i < w.heap.size
  ne : ∀ i, i < n → g i ≠ b
  sub : ∀ i r, rs[i]? = some r → At w (g i) r
  inj : ∀ i j, i < n → j < n → g i = g j → i = j
theorem OwnG.idx {α : Type} {sz : Nat} {hd : α → List Int} {ln : α → Nat} {At : World → Nat → α → Prop} {w : World} {base b n : Nat} {rs : List α} {g : Nat → Nat} (h : OwnG sz hd ln At w base b n rs g) {i : Nat} {r : α} (e : rs[i]? = some r) : i < n := by
  have := (List.getElem?_eq_some_iff.1 e).1; have := h.len; omega
theorem OwnG.nil {α : Type} {sz : Nat} {hd : α → List Int} {ln : α → Nat} {At : World → Nat → α → Prop} (w : World) (base b : Nat) (g : Nat → Nat) : OwnG sz hd ln At w base b 0 [] g :=
  ⟨rfl, fun i r e => by simp at e, fun i r e => by simp at e, fun i h => by omega, fun i h => by omega, fun i h => by omega, fun i r e => by simp at e, fun i j h => by omega⟩
theorem OwnG.of_blocks {α : Type} {sz : Nat} {hd : α → List Int} {ln : α → Nat} {At : World → Nat → α → Prop} (hAt : ∀ (w w' : World) (b : Nat) (r : α), w'.heap[b]? = w.heap[b]? → At w b r → At w' b r) {w w' : World} {base b n : Nat} {rs : List α} {g : Nat → Nat} (h : OwnG sz hd ln At w base b n rs g) (hs : w.heap.size ≤ w'.heap.size) (eb : w'.heap[b]? = w.heap[b]?) (eg : ∀ i, i < n → w'.heap[g i]? = w.heap[g i]?) : OwnG sz hd ln At w' base b n rs g := by
  refine ⟨h.len, fun i r e t z ht => (World.cell?_of_block (a := ⟨b, i * sz + t, none⟩) eb).trans (h.head i r e t z ht), fun i r e => ?_, h.low, fun i hi => Nat.lt_of_lt_of_le (h.lt i hi) hs, h.ne, fun i r e => hAt _ _ _ _ (eg i (h.idx e)) (h.sub i r e), h.inj⟩
  obtain ⟨cap, h1, h2⟩ := h.tail i r e
  exact ⟨cap, (World.cell?_of_block (a := ⟨b, i * sz + (sz - 1), none⟩) eb).trans h1, h2⟩
theorem OwnG.later {α : Type} {sz : Nat} {hd : α → List Int} {ln : α → Nat} {At : World → Nat → α → Prop} (hAt : ∀ (w w' : World) (b : Nat) (r : α), w'.heap[b]? = w.heap[b]? → At w b r → At w' b r) {w w' : World} {base b n : Nat} {rs : List α} {g : Nat → Nat} (h : OwnG sz hd ln At w base b n rs g) (hb : Below w.heap.size w w') (hlt : b < w.heap.size) : OwnG sz hd ln At w' base b n rs g :=
  h.of_blocks hAt hb.size (hb.block b hlt) (fun i hi => hb.block _ (h.lt i hi))
theorem OwnG.next {α : Type} {sz : Nat} {hd : α → List Int} {ln : α → Nat} {At : World → Nat → α → Prop} (hAt : ∀ (w w' : World) (b : Nat) (r : α), w'.heap[b]? = w.heap[b]? → At w b r → At w' b r) {w V : World} {base b j : Nat} {rs : List α} {g : Nat → Nat} {r : α} {q cap : Nat} (h : OwnG sz hd ln At w base b j rs g) (hz : 0 < sz) (hh : ∀ r : α, (hd r).length < sz)
    (hs : w.heap.size ≤ V.heap.size) (hb : ∀ x, x ≠ b → V.heap[x]? = w.heap[x]?) (hold : ∀ o, o < j * sz → V.cell? ⟨b, o, none⟩ = w.cell? ⟨b, o, none⟩) (hhd : ∀ t z, (hd r)[t]? = some z → V.cell? ⟨b, j * sz + t, none⟩ = some (.int .i64 z)) (htl : V.cell? ⟨b, j * sz + (sz - 1), none⟩ = some (.slice (some ⟨q, 0, none⟩) (ln r) cap)) (hcp : ln r ≤ cap)
    (hq : base ≤ q) (hl : q < V.heap.size) (hn : q ≠ b) (hat : At V q r) (hf : ∀ i, i < j → g i ≠ q) : OwnG sz hd ln At V base b (j + 1) (rs ++ [r]) (fun i => if i = j then q else g i) := by
  have hlen := h.len
  have lo : ∀ i t, i < j → t < sz → i * sz + t < j * sz := fun i t hi ht => by
    have : (i + 1) * sz ≤ j * sz := Nat.mul_le_mul_right sz (by omega)
    rw [Nat.add_mul] at this; omega
  have split : ∀ i y, (rs ++ [r])[i]? = some y → (i < j ∧ rs[i]? = some y) ∨ (i = j ∧ y = r) := fun i y e => by
    by_cases hi : i < rs.length
    · rw [List.getElem?_append_left hi] at e
      exact .inl ⟨by omega, e⟩
    · rw [List.getElem?_append_right (by omega)] at e
      have h0 : i - rs.length = 0 := by
        rcases Nat.eq_zero_or_pos (i - rs.length) with h | h
        · exact h
        · rw [List.getElem?_eq_none (by simp; omega)] at e; cases e
      rw [h0] at e
      simp at e
      exact .inr ⟨by omega, e.symm⟩
  refine ⟨by simp [hlen], fun i y e t z ht => ?_, fun i y e => ?_, fun i hi => ?_, fun i hi => ?_, fun i hi => ?_, fun i y e => ?_, fun i k hi hk e => ?_⟩
  · rcases split i y e with ⟨hi, e⟩ | ⟨rfl, rfl⟩
    · rw [hold _ (lo i t hi (Nat.lt_trans (List.getElem?_eq_some_iff.1 ht).1 (hh y)))]; exact h.head i y e t z ht
    · exact hhd t z ht
  · rcases split i y e with ⟨hi, e⟩ | ⟨rfl, rfl⟩
    · rw [if_neg (by omega), hold _ (lo i _ hi (by omega))]; exact h.tail i y e
    · rw [if_pos rfl]; exact ⟨cap, htl, hcp⟩
  · by_cases e : i = j
    · rw [if_pos e]; exact hq
    · rw [if_neg e]; exact h.low i (by omega)
  · by_cases e : i = j
    · rw [if_pos e]; exact hl
    · rw [if_neg e]; exact Nat.lt_of_lt_of_le (h.lt i (by omega)) hs
  · by_cases e : i = j
    · rw [if_pos e]; exact hn
    · rw [if_neg e]; exact h.ne i (by omega)
  · rcases split i y e with ⟨hi, e⟩ | ⟨rfl, rfl⟩
    · rw [if_neg (by omega)]; exact hAt _ _ _ _ (hb _ (h.ne i hi)) (h.sub i y e)
    · rw [if_pos rfl]; exact hat
  · by_cases ei : i = j <;> by_cases ek : k = j
    · omega
    · simp only [if_pos ei, if_neg ek] at e; exact absurd e.symm (hf k (by omega))
    · simp only [if_neg ei, if_pos ek] at e; exact absurd e (hf i (by omega))
    · simp only [if_neg ei, if_neg ek] at e; exact h.inj i k (by omega) (by omega) e
end Go.Proofs.Ytcbfnajpcaipkaa
namespace Go.Proofs.Ytcbfnajpcaipkaa
open Go.RowKit
open Go.Sort (grow)
set_option maxHeartbeats 1000000 in
theorem toSetS_someR (w : World) (b off n cap : Nat) (xs : List S5) (hx : xs.length = n) (hn : n ≤ 1048576) (hb : b < w.heap.size) (hs : SetsAt w b off xs) : Calls Try.prog 67 #[.slice (some ⟨b, off, none⟩) n cap] w fun e w' =>
    e = .returned (.slice (some ⟨w.heap.size, 0, none⟩) n n) ∧ Below w.heap.size w w' ∧ w.heap.size < w'.heap.size ∧ SetsAt w' w.heap.size 0 xs ∧ Room w' w.heap.size (n * 5) := by
  have hmk := make_sets n hn
  go_enter Try.func67, Try.ntmps67
  go_wp2
  go_loopw [4] (fun i wr => ∃ k : Nat, k ≤ n ∧ i = .int .i64 k ∧ Below w.heap.size w wr ∧ w.heap.size < wr.heap.size ∧ Room wr w.heap.size (n * 5) ∧ SetsAt wr w.heap.size 0 (xs.take k))
     (fun i _ => n - (intOf i).toNat)
  case atStart => exact ⟨0, Nat.zero_le _, rfl, (Below.refl _ _).alloc (Nat.le_refl _) _, by simp, room_made _ _ _ _, fun i s e => by simp at e⟩
  case round =>
    obtain ⟨k, hk, rfl, hbl, hsz, hro, hdo⟩ := hrel
    by_cases hlt : k < n
    · have hs' := hs.below hbl hb
      obtain ⟨s, hsk⟩ : ∃ s, xs[k]? = some s := ⟨xs[k]'(by omega), by simp⟩
      obtain ⟨c0, c1, c2, c3, c4⟩ := hs' k s hsk
      clear hs' hmk
      have K : Hid (Room wr w.heap.size (n * 5) ∧ SetsAt wr w.heap.size 0 (xs.take k) ∧ xs[k]? = some s ∧ Below w.heap.size w wr) := ⟨hro, hdo, hsk, hbl⟩
      clear hro hdo hsk hbl
      go_wp2_with fail
      refine (toSet_any _ s).mono ?_
      rintro e w1 ⟨rfl, b1⟩
      obtain ⟨hro, hdo, hsk, hbl⟩ := K.out
      have hro1 := hro.below b1 hsz
      have hdo1 := hdo.below b1 hsz
      obtain ⟨v0, d0, f0⟩ := hro1 (k * 5) (by omega)
      obtain ⟨v1, d1, f1⟩ := hro1 (k * 5 + 1) (by omega)
      obtain ⟨v2, d2, f2⟩ := hro1 (k * 5 + 2) (by omega)
      obtain ⟨v3, d3, f3⟩ := hro1 (k * 5 + 3) (by omega)
      obtain ⟨v4, d4, f4⟩ := hro1 (k * 5 + 4) (by omega)
      clear hro hdo hsk hbl
      have K2 : Hid (Room w1 w.heap.size (n * 5) ∧ SetsAt w1 w.heap.size 0 (xs.take k)) := ⟨hro1, hdo1⟩
      clear hro1 hdo1
      go_wp2
      obtain ⟨hro, hdo, hsk, hbl⟩ := K.out
      obtain ⟨hro1, hdo1⟩ := K2.out
      have hbl1 := hbl.trans (b1.mono (Nat.le_of_lt hsz))
      refine ⟨⟨k + 1, by omega, by simp, ((((hbl1.setCell (p := ⟨w.heap.size, k * 5, none⟩) (Nat.le_refl _) _).setCell (p := ⟨w.heap.size, k * 5 + 1, none⟩) (Nat.le_refl _) _).setCell (p := ⟨w.heap.size, k * 5 + 2, none⟩) (Nat.le_refl _) _).setCell (p := ⟨w.heap.size, k * 5 + 3, none⟩) (Nat.le_refl _) _).setCell (p := ⟨w.heap.size, k * 5 + 4, none⟩) (Nat.le_refl _) _,
        by have := b1.size; simp [World.setCell]; omega, ((((hro1.set _).set _).set _).set _).set _, hdo1.put hsk hro1 (by omega)⟩, by simp [intOf]; omega⟩
    · have : k = n := by omega
      subst this
      have hd : decide (k < k) = false := by simp
      go_wp2
      go_ret
      refine ⟨rfl, hbl, hsz, ?_, hro⟩
      rw [← hx, List.take_length] at hdo
      exact hdo
theorem toSetS_anyR (w : World) (a : Option Addr) (n cap : Nat) (xs : List S5) (hn : n ≤ 1048576) (hs : Sl w w.heap.size a n xs) : Calls Try.prog 67 #[.slice a n cap] w fun e w' =>
    e = .returned (.slice (some ⟨w.heap.size, 0, none⟩) n n) ∧ Below w.heap.size w w' ∧ w.heap.size < w'.heap.size ∧ SetsAt w' w.heap.size 0 xs ∧ Room w' w.heap.size (n * 5) := by
  obtain ⟨h1, h2⟩ := hs
  rcases h2 with rfl | ⟨b, off, rfl, hb, hx⟩
  · refine (toSetS_none w a cap).mono ?_
    rintro e w' ⟨rfl, h, h'⟩
    exact ⟨rfl, h, h', (fun i s e => by rw [List.eq_nil_of_length_eq_zero h1] at e; simp at e), fun j hj => by omega⟩
  · exact toSetS_someR w b off n cap xs h1 hn hb hx
end Go.Proofs.Ytcbfnajpcaipkaa
namespace Go.Proofs.Ytcbfnajpcaipkaa
open Go.RowKit
def hdR (r : R4) : List Int := [r.kind, r.tx, r.region]
def lnR (r : R4) : Nat := r.sets.length
def AtR (w : World) (b : Nat) (r : R4) : Prop := SetsAt w b 0 r.sets ∧ Room w b (r.sets.length * 5)
theorem SetsAt.of_block {w w' : World} {b off : Nat} {xs : List S5} (h : SetsAt w b off xs) (e : w'.heap[b]? = w.heap[b]?) : SetsAt w' b off xs := fun i s hs => by
  obtain ⟨c0, c1, c2, c3, c4⟩ := h i s hs
  exact ⟨(World.cell?_of_block (a := ⟨b, _, none⟩) e).trans c0, (World.cell?_of_block (a := ⟨b, _, none⟩) e).trans c1, (World.cell?_of_block (a := ⟨b, _, none⟩) e).trans c2, (World.cell?_of_block (a := ⟨b, _, none⟩) e).trans c3, (World.cell?_of_block (a := ⟨b, _, none⟩) e).trans c4⟩
theorem CellsAt.of_block {w w' : World} {b off : Nat} {xs : List C2} (h : CellsAt w b off xs) (e : w'.heap[b]? = w.heap[b]?) : CellsAt w' b off xs := fun i s hs => by
  obtain ⟨c0, c1⟩ := h i s hs
  exact ⟨(World.cell?_of_block (a := ⟨b, _, none⟩) e).trans c0, (World.cell?_of_block (a := ⟨b, _, none⟩) e).trans c1⟩
theorem AtR.of_block (w w' : World) (b : Nat) (r : R4) (e : w'.heap[b]? = w.heap[b]?) (h : AtR w b r) : AtR w' b r := ⟨h.1.of_block e, h.2.of_block e⟩
def hdK (k : K2) : List Int := [k.region]
def lnK (k : K2) : Nat := k.cells.length
def AtK (w : World) (b : Nat) (k : K2) : Prop := CellsAt w b 0 k.cells ∧ Room w b (k.cells.length * 2)
theorem AtK.of_block (w w' : World) (b : Nat) (r : K2) (e : w'.heap[b]? = w.heap[b]?) (h : AtK w b r) : AtK w' b r := ⟨h.1.of_block e, h.2.of_block e⟩
theorem ownR_sl {w : World} {base b n : Nat} {rs : List R4} {g : Nat → Nat} (h : OwnG 4 hdR lnR AtR w base b n rs g) (hb : b < w.heap.size) : SlR w w.heap.size (some ⟨b, 0, none⟩) n rs :=
  ⟨h.len, .inr ⟨b, 0, rfl, hb, fun i r e => by
    rw [Nat.zero_add]
    obtain ⟨cap, h1, h2⟩ := h.tail i r e
    exact ⟨h.head i r e 0 _ rfl, h.head i r e 1 _ rfl, h.head i r e 2 _ rfl, _, cap, h1, ⟨rfl, .inr ⟨_, 0, rfl, h.lt i (h.idx e), (h.sub i r e).1⟩⟩, h2⟩⟩⟩
theorem ownK_sl {w : World} {base b n : Nat} {rs : List K2} {g : Nat → Nat} (h : OwnG 2 hdK lnK AtK w base b n rs g) (hb : b < w.heap.size) : SlK w w.heap.size (some ⟨b, 0, none⟩) n rs :=
  ⟨h.len, .inr ⟨b, 0, rfl, hb, fun i r e => by
    rw [Nat.zero_add]
    obtain ⟨cap, h1, h2⟩ := h.tail i r e
    exact ⟨h.head i r e 0 _ rfl, _, cap, h1, ⟨rfl, .inr ⟨_, 0, rfl, h.lt i (h.idx e), (h.sub i r e).1⟩⟩, h2⟩⟩⟩
theorem info_cops : (Try.prog.info? 68).map (fun i => (i.zero, i.size, i.bytes)) = some (some (.agg #[.int .i64 0, .slice none 0 0]), 2, 32) := by kernel_rfl
structure OwnM (w : World) (B0 B1 B2 B3 : Nat) (v : MV) (m : M4) (gk gr : Nat → Nat) : Prop where
  k : ∃ b, v.ac = some ⟨b, 0, none⟩ ∧ B0 ≤ b ∧ b < B1 ∧ OwnG 2 hdK lnK AtK w B0 b m.copies.length m.copies gk ∧ (∀ i, i < m.copies.length → gk i < B1) ∧ Room w b (m.copies.length * 2)
  r : ∃ b, v.al = some ⟨b, 0, none⟩ ∧ B1 ≤ b ∧ b < B2 ∧ OwnG 4 hdR lnR AtR w B1 b m.log.length m.log gr ∧ (∀ i, i < m.log.length → gr i < B2) ∧ Room w b (m.log.length * 4)
  n : ∃ b, v.ad = some ⟨b, 0, none⟩ ∧ B2 ≤ b ∧ b < B3 ∧ NumsAt w b 0 m.cleared ∧ Room w b m.cleared.length
  o1 : B0 ≤ B1
  o2 : B1 ≤ B2
  o3 : B2 ≤ B3
  sz : B3 ≤ w.heap.size
theorem OwnM.sl {w : World} {B0 B1 B2 B3 : Nat} {v : MV} {m : M4} {gk gr : Nat → Nat} (h : OwnM w B0 B1 B2 B3 v m gk gr) : SlM w v m := by
  have h1 := h.o1; have h2 := h.o2; have h3 := h.o3; have h4 := h.sz
  obtain ⟨b, e, _, l, o, _, _⟩ := h.k
  obtain ⟨b', e', _, l', o', _, _⟩ := h.r
  obtain ⟨b'', e'', _, l'', o'', _⟩ := h.n
  exact ⟨by rw [e]; exact ownK_sl o (by omega), by rw [e']; exact ownR_sl o' (by omega), by rw [e'']; exact ⟨rfl, .inr ⟨b'', 0, rfl, by omega, o''⟩⟩⟩
theorem OwnM.kept {w w' : World} {B0 B1 B2 B3 : Nat} {v : MV} {m : M4} {gk gr : Nat → Nat} (h : OwnM w B0 B1 B2 B3 v m gk gr) (hs : w.heap.size ≤ w'.heap.size) (hk : ∀ q, B0 ≤ q → q < B3 → w'.heap[q]? = w.heap[q]?) : OwnM w' B0 B1 B2 B3 v m gk gr := by
  have h1 := h.o1; have h2 := h.o2; have h3 := h.o3; have h4 := h.sz
  obtain ⟨b, e, l1, l, o, og, rm⟩ := h.k
  obtain ⟨b', e', l1', l', o', og', rm'⟩ := h.r
  obtain ⟨b'', e'', l1'', l'', o'', rm''⟩ := h.n
  have hb := hk b (by omega) (by omega)
  have hb' := hk b' (by omega) (by omega)
  have hb'' := hk b'' (by omega) (by omega)
  exact ⟨⟨b, e, l1, l, o.of_blocks AtK.of_block hs hb (fun i hi => hk _ (o.low i hi) (by have := og i hi; omega)), og, rm.of_block hb⟩,
    ⟨b', e', l1', l', o'.of_blocks AtR.of_block hs hb' (fun i hi => hk _ (by have := o'.low i hi; omega) (by have := og' i hi; omega)), og', rm'.of_block hb'⟩,
    ⟨b'', e'', l1'', l'', o''.of_block hb'', rm''.of_block hb''⟩, h1, h2, h3, by omega⟩
structure TP (s : Nat) (alive : Bool) (al ad : Value) (X : World) (s1 s2 s3 : Value) : Prop where
  a2 : X.cell? ⟨s, 2, none⟩ = some al
  a3 : X.cell? ⟨s, 3, none⟩ = some ad
  o0 : X.cell? ⟨s + 1 + 1, 0, none⟩ = some (.bool alive)
  o1 : X.cell? ⟨s + 1 + 1, 1, none⟩ = some s1
  o2 : X.cell? ⟨s + 1 + 1, 2, none⟩ = some s2
  o3 : X.cell? ⟨s + 1 + 1, 3, none⟩ = some s3
  fo : ∀ j, X.frozen? ⟨s + 1 + 1, j, none⟩ = false
  r0 : X.cell? ⟨s + 1, 0, none⟩ = some (.bool false)
  r1 : X.cell? ⟨s + 1, 1, none⟩ = some (.slice none 0 0)
  r2 : X.cell? ⟨s + 1, 2, none⟩ = some (.slice none 0 0)
  r3 : X.cell? ⟨s + 1, 3, none⟩ = some (.slice none 0 0)
  fr : ∀ j, X.frozen? ⟨s + 1, j, none⟩ = false
  lt : s + 2 < X.heap.size
theorem TP.below {s : Nat} {alive : Bool} {al ad : Value} {X Y : World} {s1 s2 s3 : Value} (h : TP s alive al ad X s1 s2 s3) (hb : Below X.heap.size X Y) : TP s alive al ad Y s1 s2 s3 := by
  have l := h.lt
  have ea := hb.block s (by omega)
  have er := hb.block (s + 1) (by omega)
  have eo := hb.block (s + 1 + 1) (by omega)
  have c : ∀ {b j : Nat} {u : Value}, Y.heap[b]? = X.heap[b]? → X.cell? ⟨b, j, none⟩ = some u → Y.cell? ⟨b, j, none⟩ = some u := fun {b j u} e h => (World.cell?_of_block (a := ⟨b, j, none⟩) e).trans h
  exact ⟨c ea h.a2, c ea h.a3, c eo h.o0, c eo h.o1, c eo h.o2, c eo h.o3, fun j => (World.frozen?_of_block (a := ⟨s + 1 + 1, j, none⟩) eo).trans (h.fo j), c er h.r0, c er h.r1, c er h.r2, c er h.r3, fun j => (World.frozen?_of_block (a := ⟨s + 1, j, none⟩) er).trans (h.fr j), Nat.lt_of_lt_of_le l hb.size⟩
theorem TP.set1 {s : Nat} {alive : Bool} {al ad : Value} {X : World} {s1 s2 s3 : Value} (h : TP s alive al ad X s1 s2 s3) (v : Value) : TP s alive al ad (X.setCell ⟨s + 1 + 1, 1, none⟩ v) v s2 s3 :=
  ⟨(cell_set_far (by show s + 1 + 1 ≠ s; omega) v).trans h.a2, (cell_set_far (by show s + 1 + 1 ≠ s; omega) v).trans h.a3, (cell_set_other (by omega)).trans h.o0, cell_set_same h.o1, (cell_set_other (by omega)).trans h.o2, (cell_set_other (by omega)).trans h.o3, fun j => by rw [World.frozen?_setCell]; exact h.fo j, (cell_set_far (by simp) v).trans h.r0, (cell_set_far (by simp) v).trans h.r1, (cell_set_far (by simp) v).trans h.r2, (cell_set_far (by simp) v).trans h.r3, fun j => by rw [World.frozen?_setCell]; exact h.fr j, by simpa [World.setCell] using h.lt⟩
theorem TP.set2 {s : Nat} {alive : Bool} {al ad : Value} {X : World} {s1 s2 s3 : Value} (h : TP s alive al ad X s1 s2 s3) (v : Value) : TP s alive al ad (X.setCell ⟨s + 1 + 1, 2, none⟩ v) s1 v s3 :=
  ⟨(cell_set_far (by show s + 1 + 1 ≠ s; omega) v).trans h.a2, (cell_set_far (by show s + 1 + 1 ≠ s; omega) v).trans h.a3, (cell_set_other (by omega)).trans h.o0, (cell_set_other (by omega)).trans h.o1, cell_set_same h.o2, (cell_set_other (by omega)).trans h.o3, fun j => by rw [World.frozen?_setCell]; exact h.fo j, (cell_set_far (by simp) v).trans h.r0, (cell_set_far (by simp) v).trans h.r1, (cell_set_far (by simp) v).trans h.r2, (cell_set_far (by simp) v).trans h.r3, fun j => by rw [World.frozen?_setCell]; exact h.fr j, by simpa [World.setCell] using h.lt⟩
theorem TP.set3 {s : Nat} {alive : Bool} {al ad : Value} {X : World} {s1 s2 s3 : Value} (h : TP s alive al ad X s1 s2 s3) (v : Value) : TP s alive al ad (X.setCell ⟨s + 1 + 1, 3, none⟩ v) s1 s2 v :=
  ⟨(cell_set_far (by show s + 1 + 1 ≠ s; omega) v).trans h.a2, (cell_set_far (by show s + 1 + 1 ≠ s; omega) v).trans h.a3, (cell_set_other (by omega)).trans h.o0, (cell_set_other (by omega)).trans h.o1, (cell_set_other (by omega)).trans h.o2, cell_set_same h.o3, fun j => by rw [World.frozen?_setCell]; exact h.fo j, (cell_set_far (by simp) v).trans h.r0, (cell_set_far (by simp) v).trans h.r1, (cell_set_far (by simp) v).trans h.r2, (cell_set_far (by simp) v).trans h.r3, fun j => by rw [World.frozen?_setCell]; exact h.fr j, by simpa [World.setCell] using h.lt⟩
end Go.Proofs.Ytcbfnajpcaipkaa