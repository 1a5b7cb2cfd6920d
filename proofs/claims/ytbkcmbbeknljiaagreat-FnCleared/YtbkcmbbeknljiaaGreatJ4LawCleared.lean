/- MacD; OwnG: joined. -/
import Derived.Test.YtbkcmbbeknljiaaGreatRows
import Derived.Test.YtbkcmbbeknljiaaGreatRecsJ
import Derived.Test.YtbkcmbbeknljiaaGreatCellsJ
import Derived.Test.YtbkcmbbeknljiaaGreatJ3LawCleared
import Derived.Test.YtbkcmbbeknljiaaGreatJ0LawCleared
import Derived.Below
/- Machines in memory: rows of records, rows of copies; what they hold. No program in sight. -/
namespace Go.Proofs.YtbkcmbbeknljiaaGreat
open Go.RowKit
structure R4 where
  kind : Int
  tx : Int
  region : Int
  sets : List S5
structure K2 where
  region : Int
  cells : List C2
structure M4 where
  alive : Bool
  copies : List K2
  log : List R4
  cleared : List Int
structure RecAt (w : World) (B b o : Nat) (r : R4) : Prop where
  c0 : w.cell? ⟨b, o, none⟩ = some (.int .i64 r.kind)
  c1 : w.cell? ⟨b, o + 1, none⟩ = some (.int .i64 r.tx)
  c2 : w.cell? ⟨b, o + 2, none⟩ = some (.int .i64 r.region)
  c3 : ∃ a cap, w.cell? ⟨b, o + 3, none⟩ = some (.slice a r.sets.length cap) ∧ Sl w B a r.sets.length r.sets ∧ r.sets.length ≤ cap
theorem RecAt.below {w w' : World} {B b o : Nat} {r : R4} (h : RecAt w B b o r) (hb : Below B w w') (hB : b < B) : RecAt w' B b o r :=
  ⟨(hb.cell (p := ⟨b, o, none⟩) hB).trans h.c0, (hb.cell (p := ⟨b, o + 1, none⟩) hB).trans h.c1, (hb.cell (p := ⟨b, o + 2, none⟩) hB).trans h.c2, by
    obtain ⟨a, cap, h1, h2, h3⟩ := h.c3
    exact ⟨a, cap, (hb.cell (p := ⟨b, o + 3, none⟩) hB).trans h1, h2.below hb, h3⟩⟩
theorem RecAt.mono {w : World} {B B' b o : Nat} {r : R4} (h : RecAt w B b o r) (hB : B ≤ B') : RecAt w B' b o r :=
  ⟨h.c0, h.c1, h.c2, by
    obtain ⟨a, cap, h1, h2, h3⟩ := h.c3
    exact ⟨a, cap, h1, h2.mono hB, h3⟩⟩
def RecsAt (w : World) (B b off : Nat) (rs : List R4) : Prop := ∀ i r, rs[i]? = some r → RecAt w B b (off + i * 4) r
def SlR (w : World) (B : Nat) (a : Option Addr) (n : Nat) (rs : List R4) : Prop := rs.length = n ∧ (n = 0 ∨ ∃ b off, a = some ⟨b, off, none⟩ ∧ b < B ∧ RecsAt w B b off rs)
theorem SlR.later {w w' : World} {a : Option Addr} {n : Nat} {rs : List R4} (h : SlR w w.heap.size a n rs) (hb : Below w.heap.size w w') : SlR w' w'.heap.size a n rs := by
  obtain ⟨h1, h2⟩ := h
  refine ⟨h1, h2.imp id ?_⟩
  rintro ⟨b, off, ha, hB, hx⟩
  exact ⟨b, off, ha, Nat.lt_of_lt_of_le hB hb.size, fun i r e => ((hx i r e).below hb hB).mono hb.size⟩
structure CopAt (w : World) (B b o : Nat) (k : K2) : Prop where
  c0 : w.cell? ⟨b, o, none⟩ = some (.int .i64 k.region)
  c1 : ∃ a cap, w.cell? ⟨b, o + 1, none⟩ = some (.slice a k.cells.length cap) ∧ SlC w B a k.cells.length k.cells ∧ k.cells.length ≤ cap
theorem CopAt.below {w w' : World} {B b o : Nat} {k : K2} (h : CopAt w B b o k) (hb : Below B w w') (hB : b < B) : CopAt w' B b o k :=
  ⟨(hb.cell (p := ⟨b, o, none⟩) hB).trans h.c0, by
    obtain ⟨a, cap, h1, h2, h3⟩ := h.c1
    exact ⟨a, cap, (hb.cell (p := ⟨b, o + 1, none⟩) hB).trans h1, h2.below hb, h3⟩⟩
theorem CopAt.mono {w : World} {B B' b o : Nat} {k : K2} (h : CopAt w B b o k) (hB : B ≤ B') : CopAt w B' b o k :=
  ⟨h.c0, by
    obtain ⟨a, cap, h1, h2, h3⟩ := h.c1
    exact ⟨a, cap, h1, h2.mono hB, h3⟩⟩
def CopsAt (w : World) (B b off : Nat) (ks : List K2) : Prop := ∀ i k, ks[i]? = some k → CopAt w B b (off + i * 2) k
def SlK (w : World) (B : Nat) (a : Option Addr) (n : Nat) (ks : List K2) : Prop := ks.length = n ∧ (n = 0 ∨ ∃ b off, a = some ⟨b, off, none⟩ ∧ b < B ∧ CopsAt w B b off ks)
theorem SlK.later {w w' : World} {a : Option Addr} {n : Nat} {ks : List K2} (h : SlK w w.heap.size a n ks) (hb : Below w.heap.size w w') : SlK w' w'.heap.size a n ks := by
  obtain ⟨h1, h2⟩ := h
  refine ⟨h1, h2.imp id ?_⟩
  rintro ⟨b, off, ha, hB, hx⟩
  exact ⟨b, off, ha, Nat.lt_of_lt_of_le hB hb.size, fun i k e => ((hx i k e).below hb hB).mono hb.size⟩
def atR (rs : List R4) (i : Nat) : R4 := rs[i]?.getD ⟨0, 0, 0, []⟩
theorem atR_of {rs : List R4} {i : Nat} (h : i < rs.length) : rs[i]? = some (atR rs i) := by simp [atR, List.getElem?_eq_getElem h]
def atK (ks : List K2) (i : Nat) : K2 := ks[i]?.getD ⟨0, []⟩
theorem atK_of {ks : List K2} {i : Nat} (h : i < ks.length) : ks[i]? = some (atK ks i) := by simp [atK, List.getElem?_eq_getElem h]
/-- The value of a machine, its three rows. -/
structure MV where
  ac : Option Addr
  cc : Nat
  al : Option Addr
  cl : Nat
  ad : Option Addr
  cd : Nat
def MV.val (v : MV) (m : M4) : Value := .agg #[.bool m.alive, .slice v.ac m.copies.length v.cc, .slice v.al m.log.length v.cl, .slice v.ad m.cleared.length v.cd]
structure SlM (w : World) (v : MV) (m : M4) : Prop where
  k : SlK w w.heap.size v.ac m.copies.length m.copies
  r : SlR w w.heap.size v.al m.log.length m.log
  n : SlN w w.heap.size v.ad m.cleared.length m.cleared
theorem SlM.later {w w' : World} {v : MV} {m : M4} (h : SlM w v m) (hb : Below w.heap.size w w') : SlM w' v m := ⟨h.k.later hb, h.r.later hb, h.n.later hb⟩
/-- How many a row of rows holds. -/
def lensR (rs : List R4) : Nat := (rs.map fun r => r.sets.length).sum
def lensK (ks : List K2) : Nat := (ks.map fun k => k.cells.length).sum
theorem sum_take_succ {ns : List Nat} {j x : Nat} (h : ns[j]? = some x) : (ns.take (j + 1)).sum = (ns.take j).sum + x := by
  rw [List.take_add_one, h]; simp
theorem sum_take_le (ns : List Nat) (j : Nat) : (ns.take j).sum ≤ ns.sum := by
  conv => rhs; rw [← List.take_append_drop j ns, List.sum_append]
  omega
theorem sum_mem {ns : List Nat} {x : Nat} (h : x ∈ ns) : x ≤ ns.sum := by
  induction ns with
  | nil => cases h
  | cons y r ih =>
    rcases List.mem_cons.1 h with rfl | h
    · simp
    · have := ih h; simp; omega
end Go.Proofs.YtbkcmbbeknljiaaGreat
/- A row of structs of a call's own: some numbers, and behind them a row of each struct's own. No program in sight. -/
namespace Go.Proofs.YtbkcmbbeknljiaaGreat
open Go.RowKit
/-- Block b holds the structs rs, each of sz cells: the numbers hd, and at the end a slice that lies at the head of block g i, as At says; all apart, from base on. -/
structure OwnG {α : Type} (sz : Nat) (hd : α → List Int) (ln : α → Nat) (At : World → Nat → α → Prop) (w : World) (base b n : Nat) (rs : List α) (g : Nat → Nat) : Prop where
  len : rs.length = n
  head : ∀ i r, rs[i]? = some r → ∀ t z, (hd r)[t]? = some z → w.cell? ⟨b, i * sz + t, none⟩ = some (.int .i64 z)
  tail : ∀ i r, rs[i]? = some r → ∃ cap, w.cell? ⟨b, i * sz + (sz - 1), none⟩ = some (.slice (some ⟨g i, 0, none⟩) (ln r) cap) ∧ ln r ≤ cap
  low : ∀ i, i < n → base ≤ g i
  lt : ∀ i, i < n → g i < w.heap.size
  ne : ∀ i, i < n → g i ≠ b
  sub : ∀ i r, rs[i]? = some r → At w (g i) r
  inj : ∀ i j, i < n → j < n → g i = g j → i = j
theorem OwnG.idx {α : Type} {sz : Nat} {hd : α → List Int} {ln : α → Nat} {At : World → Nat → α → Prop} {w : World} {base b n : Nat} {rs : List α} {g : Nat → Nat} (h : OwnG sz hd ln At w base b n rs g) {i : Nat} {r : α} (e : rs[i]? = some r) : i < n := by
  have := (List.getElem?_eq_some_iff.1 e).1; have := h.len; omega
theorem OwnG.nil {α : Type} {sz : Nat} {hd : α → List Int} {ln : α → Nat} {At : World → Nat → α → Prop} (w : World) (base b : Nat) (g : Nat → Nat) : OwnG sz hd ln At w base b 0 [] g :=
  ⟨rfl, fun i r e => by simp at e, fun i r e => by simp at e, fun i h => by omega, fun i h => by omega, fun i h => by omega, fun i r e => by simp at e, fun i j h => by omega⟩
theorem OwnG.of_blocks {α : Type} {sz : Nat} {hd : α → List Int} {ln : α → Nat} {At : World → Nat → α → Prop} (hAt : ∀ (w w' : World) (b : Nat) (r : α), w'.heap[b]? = w.heap[b]? → At w b r → At w' b r) {w w' : World} {base b n : Nat} {rs : List α} {g : Nat → Nat} (h : OwnG sz hd ln At w base b n rs g) (hs : w.heap.size ≤ w'.heap.size) (eb : w'.heap[b]? = w.heap[b]?) (eg : ∀ i, i < n → w'.heap[g i]? = w.heap[g i]?) : OwnG sz hd ln At w' base b n rs g := by
  refine ⟨h.len, fun i r e t z ht => (World.cell?_of_block (a := ⟨b, i * sz + t, none⟩) eb).trans (h.head i r e t z ht), fun i r e => ?_, h.low, fun i hi => Nat.lt_of_lt_of_le (h.lt i hi) hs, h.ne, fun i r e => hAt _ _ _ _ (eg i (h.idx e)) (h.sub i r e), h.inj⟩
  obtain ⟨cap, h1, h2⟩ := h.tail i r e
  exact ⟨cap, (World.cell?_of_block (a := ⟨b, i * sz + (sz - 1), none⟩) eb).trans h1, h2⟩
theorem OwnG.later {α : Type} {sz : Nat} {hd : α → List Int} {ln : α → Nat} {At : World → Nat → α → Prop} (hAt : ∀ (w w' : World) (b : Nat) (r : α), w'.heap[b]? = w.heap[b]? → At w b r → At w' b r) {w w' : World} {base b n : Nat} {rs : List α} {g : Nat → Nat} (h : OwnG sz hd ln At w base b n rs g) (hb : Below w.heap.size w w') (hlt : b < w.heap.size) : OwnG sz hd ln At w' base b n rs g :=
  h.of_blocks hAt hb.size (hb.block b hlt) (fun i hi => hb.block _ (h.lt i hi))
/-- One struct more, stored behind the others. -/
theorem OwnG.next {α : Type} {sz : Nat} {hd : α → List Int} {ln : α → Nat} {At : World → Nat → α → Prop} (hAt : ∀ (w w' : World) (b : Nat) (r : α), w'.heap[b]? = w.heap[b]? → At w b r → At w' b r) {w V : World} {base b j : Nat} {rs : List α} {g : Nat → Nat} {r : α} {q cap : Nat} (h : OwnG sz hd ln At w base b j rs g) (hz : 0 < sz) (hh : ∀ r : α, (hd r).length < sz)
    (hs : w.heap.size ≤ V.heap.size) (hb : ∀ x, x ≠ b → V.heap[x]? = w.heap[x]?) (hold : ∀ o, o < j * sz → V.cell? ⟨b, o, none⟩ = w.cell? ⟨b, o, none⟩) (hhd : ∀ t z, (hd r)[t]? = some z → V.cell? ⟨b, j * sz + t, none⟩ = some (.int .i64 z)) (htl : V.cell? ⟨b, j * sz + (sz - 1), none⟩ = some (.slice (some ⟨q, 0, none⟩) (ln r) cap)) (hcp : ln r ≤ cap)
    (hq : base ≤ q) (hl : q < V.heap.size) (hn : q ≠ b) (hat : At V q r) (hf : ∀ i, i < j → g i ≠ q) : OwnG sz hd ln At V base b (j + 1) (rs ++ [r]) (fun i => if i = j then q else g i) := by
  have hlen := h.len
  have lo : ∀ i t, i < j → t < sz → i * sz + t < j * sz := fun i t hi ht => by
    have : (i + 1) * sz ≤ j * sz := Nat.mul_le_mul_right sz (by omega)
    rw [Nat.add_mul] at this; omega
  have split : ∀ i y, (rs ++ [r])[i]? = some y → (i < j ∧ rs[i]? = some y) ∨ (i = j ∧ y = r) := fun i y e => by
    by_cases hi : i < rs.length
    · rw [List.getElem?_append_left hi] at e
      exact .inl ⟨by omega, e⟩
    · rw [List.getElem?_append_right (by omega)] at e
      have h0 : i - rs.length = 0 := by
        rcases Nat.eq_zero_or_pos (i - rs.length) with h | h
        · exact h
        · rw [List.getElem?_eq_none (by simp; omega)] at e; cases e
      rw [h0] at e
      simp at e
      exact .inr ⟨by omega, e.symm⟩
  refine ⟨by simp [hlen], fun i y e t z ht => ?_, fun i y e => ?_, fun i hi => ?_, fun i hi => ?_, fun i hi => ?_, fun i y e => ?_, fun i k hi hk e => ?_⟩
  · rcases split i y e with ⟨hi, e⟩ | ⟨rfl, rfl⟩
    · rw [hold _ (lo i t hi (Nat.lt_trans (List.getElem?_eq_some_iff.1 ht).1 (hh y)))]; exact h.head i y e t z ht
    · exact hhd t z ht
  · rcases split i y e with ⟨hi, e⟩ | ⟨rfl, rfl⟩
    · rw [if_neg (by omega), hold _ (lo i _ hi (by omega))]; exact h.tail i y e
    · rw [if_pos rfl]; exact ⟨cap, htl, hcp⟩
  · by_cases e : i = j
    · rw [if_pos e]; exact hq
    · rw [if_neg e]; exact h.low i (by omega)
  · by_cases e : i = j
    · rw [if_pos e]; exact hl
    · rw [if_neg e]; exact Nat.lt_of_lt_of_le (h.lt i (by omega)) hs
  · by_cases e : i = j
    · rw [if_pos e]; exact hn
    · rw [if_neg e]; exact h.ne i (by omega)
  · rcases split i y e with ⟨hi, e⟩ | ⟨rfl, rfl⟩
    · rw [if_neg (by omega)]; exact hAt _ _ _ _ (hb _ (h.ne i hi)) (h.sub i y e)
    · rw [if_pos rfl]; exact hat
  · by_cases ei : i = j <;> by_cases ek : k = j
    · omega
    · simp only [if_pos ei, if_neg ek] at e; exact absurd e.symm (hf k (by omega))
    · simp only [if_neg ei, if_pos ek] at e; exact absurd e (hf i (by omega))
    · simp only [if_neg ei, if_neg ek] at e; exact h.inj i k (by omega) (by omega) e
end Go.Proofs.YtbkcmbbeknljiaaGreat
