/- MacD; OwnG; MacTo1; MacTo2: joined. -/
import Derived.Test.YtooalbdlknheeaaGreatRows
import Derived.Test.YtooalbdlknheeaaGreatJ0LawMachines
import Derived.Test.YtooalbdlknheeaaGreatCellsJ
import Derived.Test.YtooalbdlknheeaaGreatJ2LawMachines
import Derived.Below
import Derived.WalkKit
import Derived.WalkSpells
import Derived.WalkLawsBesides
import Derived.Lib.QuietBelow
import Derived.BigQuiet
/- Machines in memory: rows of records, rows of copies; what they hold. No program in sight. -/
namespace Go.Proofs.YtooalbdlknheeaaGreat
open Go.RowKit
structure R4 where
  kind : Int
  tx : Int
  region : Int
  sets : List S5
structure K2 where
  region : Int
  cells : List C2
structure M4 where
  alive : Bool
  copies : List K2
  log : List R4
  cleared : List Int
structure RecAt (w : World) (B b o : Nat) (r : R4) : Prop where
  c0 : w.cell? ⟨b, o, none⟩ = some (.int .i64 r.kind)
  c1 : w.cell? ⟨b, o + 1, none⟩ = some (.int .i64 r.tx)
  c2 : w.cell? ⟨b, o + 2, none⟩ = some (.int .i64 r.region)
  c3 : ∃ a cap, w.cell? ⟨b, o + 3, none⟩ = some (.slice a r.sets.length cap) ∧ Sl w B a r.sets.length r.sets ∧ r.sets.length ≤ cap
theorem RecAt.below {w w' : World} {B b o : Nat} {r : R4} (h : RecAt w B b o r) (hb : Below B w w') (hB : b < B) : RecAt w' B b o r :=
  ⟨(hb.cell (p := ⟨b, o, none⟩) hB).trans h.c0, (hb.cell (p := ⟨b, o + 1, none⟩) hB).trans h.c1, (hb.cell (p := ⟨b, o + 2, none⟩) hB).trans h.c2, by
    obtain ⟨a, cap, h1, h2, h3⟩ := h.c3
    exact ⟨a, cap, (hb.cell (p := ⟨b, o + 3, none⟩) hB).trans h1, h2.below hb, h3⟩⟩
theorem RecAt.mono {w : World} {B B' b o : Nat} {r : R4} (h : RecAt w B b o r) (hB : B ≤ B') : RecAt w B' b o r :=
  ⟨h.c0, h.c1, h.c2, by
    obtain ⟨a, cap, h1, h2, h3⟩ := h.c3
    exact ⟨a, cap, h1, h2.mono hB, h3⟩⟩
def RecsAt (w : World) (B b off : Nat) (rs : List R4) : Prop := ∀ i r, rs[i]? = some r → RecAt w B b (off + i * 4) r
def SlR (w : World) (B : Nat) (a : Option Addr) (n : Nat) (rs : List R4) : Prop := rs.length = n ∧ (n = 0 ∨ ∃ b off, a = some ⟨b, off, none⟩ ∧ b < B ∧ RecsAt w B b off rs)
theorem SlR.later {w w' : World} {a : Option Addr} {n : Nat} {rs : List R4} (h : SlR w w.heap.size a n rs) (hb : Below w.heap.size w w') : SlR w' w'.heap.size a n rs := by
  obtain ⟨h1, h2⟩ := h
  refine ⟨h1, h2.imp id ?_⟩
  rintro ⟨b, off, ha, hB, hx⟩
  exact ⟨b, off, ha, Nat.lt_of_lt_of_le hB hb.size, fun i r e => ((hx i r e).below hb hB).mono hb.size⟩
structure CopAt (w : World) (B b o : Nat) (k : K2) : Prop where
  c0 : w.cell? ⟨b, o, none⟩ = some (.int .i64 k.region)
  c1 : ∃ a cap, w.cell? ⟨b, o + 1, none⟩ = some (.slice a k.cells.length cap) ∧ SlC w B a k.cells.length k.cells ∧ k.cells.length ≤ cap
theorem CopAt.below {w w' : World} {B b o : Nat} {k : K2} (h : CopAt w B b o k) (hb : Below B w w') (hB : b < B) : CopAt w' B b o k :=
  ⟨(hb.cell (p := ⟨b, o, none⟩) hB).trans h.c0, by
    obtain ⟨a, cap, h1, h2, h3⟩ := h.c1
    exact ⟨a, cap, (hb.cell (p := ⟨b, o + 1, none⟩) hB).trans h1, h2.below hb, h3⟩⟩
theorem CopAt.mono {w : World} {B B' b o : Nat} {k : K2} (h : CopAt w B b o k) (hB : B ≤ B') : CopAt w B' b o k :=
  ⟨h.c0, by
    obtain ⟨a, cap, h1, h2, h3⟩ := h.c1
    exact ⟨a, cap, h1, h2.mono hB, h3⟩⟩
def CopsAt (w : World) (B b off : Nat) (ks : List K2) : Prop := ∀ i k, ks[i]? = some k → CopAt w B b (off + i * 2) k
def SlK (w : World) (B : Nat) (a : Option Addr) (n : Nat) (ks : List K2) : Prop := ks.length = n ∧ (n = 0 ∨ ∃ b off, a = some ⟨b, off, none⟩ ∧ b < B ∧ CopsAt w B b off ks)
theorem SlK.later {w w' : World} {a : Option Addr} {n : Nat} {ks : List K2} (h : SlK w w.heap.size a n ks) (hb : Below w.heap.size w w') : SlK w' w'.heap.size a n ks := by
  obtain ⟨h1, h2⟩ := h
  refine ⟨h1, h2.imp id ?_⟩
  rintro ⟨b, off, ha, hB, hx⟩
  exact ⟨b, off, ha, Nat.lt_of_lt_of_le hB hb.size, fun i k e => ((hx i k e).below hb hB).mono hb.size⟩
def atR (rs : List R4) (i : Nat) : R4 := rs[i]?.getD ⟨0, 0, 0, []⟩
theorem atR_of {rs : List R4} {i : Nat} (h : i < rs.length) : rs[i]? = some (atR rs i) := by simp [atR, List.getElem?_eq_getElem h]
def atK (ks : List K2) (i : Nat) : K2 := ks[i]?.getD ⟨0, []⟩
theorem atK_of {ks : List K2} {i : Nat} (h : i < ks.length) : ks[i]? = some (atK ks i) := by simp [atK, List.getElem?_eq_getElem h]
/-- The value of a machine, its three rows. -/
structure MV where
  ac : Option Addr
  cc : Nat
  al : Option Addr
  cl : Nat
  ad : Option Addr
  cd : Nat
def MV.val (v : MV) (m : M4) : Value := .agg #[.bool m.alive, .slice v.ac m.copies.length v.cc, .slice v.al m.log.length v.cl, .slice v.ad m.cleared.length v.cd]
structure SlM (w : World) (v : MV) (m : M4) : Prop where
  k : SlK w w.heap.size v.ac m.copies.length m.copies
  r : SlR w w.heap.size v.al m.log.length m.log
  n : SlN w w.heap.size v.ad m.cleared.length m.cleared
theorem SlM.later {w w' : World} {v : MV} {m : M4} (h : SlM w v m) (hb : Below w.heap.size w w') : SlM w' v m := ⟨h.k.later hb, h.r.later hb, h.n.later hb⟩
/-- How many a row of rows holds. -/
def lensR (rs : List R4) : Nat := (rs.map fun r => r.sets.length).sum
def lensK (ks : List K2) : Nat := (ks.map fun k => k.cells.length).sum
theorem sum_take_succ {ns : List Nat} {j x : Nat} (h : ns[j]? = some x) : (ns.take (j + 1)).sum = (ns.take j).sum + x := by
  rw [List.take_add_one, h]; simp
theorem sum_take_le (ns : List Nat) (j : Nat) : (ns.take j).sum ≤ ns.sum := by
  conv => rhs; rw [← List.take_append_drop j ns, List.sum_append]
  omega
theorem sum_mem {ns : List Nat} {x : Nat} (h : x ∈ ns) : x ≤ ns.sum := by
  induction ns with
  | nil => cases h
  | cons y r ih =>
    rcases List.mem_cons.1 h with rfl | h
    · simp
    · have := ih h; simp; omega
end Go.Proofs.YtooalbdlknheeaaGreat
/- A row of structs of a call's own: some numbers, and behind them a row of each struct's own. No program in sight. -/
namespace Go.Proofs.YtooalbdlknheeaaGreat
open Go.RowKit
/-- Block b holds the structs rs, each of sz cells: the numbers hd, and at the end a slice that lies at the head of block g i, as At says; all apart, from base on. -/
structure OwnG {α : Type} (sz : Nat) (hd : α → List Int) (ln : α → Nat) (At : World → Nat → α → Prop) (w : World) (base b n : Nat) (rs : List α) (g : Nat → Nat) : Prop where
  len : rs.length = n
  head : ∀ i r, rs[i]? = some r → ∀ t z, (hd r)[t]? = some z → w.cell? ⟨b, i * sz + t, none⟩ = some (.int .i64 z)
  tail : ∀ i r, rs[i]? = some r → ∃ cap, w.cell? ⟨b, i * sz + (sz - 1), none⟩ = some (.slice (some ⟨g i, 0, none⟩) (ln r) cap) ∧ ln r ≤ cap
  low : ∀ i, i < n → base ≤ g i
  lt : ∀ i, i < n → g i < w.heap.size
  ne : ∀ i, i < n → g i ≠ b
  sub : ∀ i r, rs[i]? = some r → At w (g i) r
  inj : ∀ i j, i < n → j < n → g i = g j → i = j
theorem OwnG.idx {α : Type} {sz : Nat} {hd : α → List Int} {ln : α → Nat} {At : World → Nat → α → Prop} {w : World} {base b n : Nat} {rs : List α} {g : Nat → Nat} (h : OwnG sz hd ln At w base b n rs g) {i : Nat} {r : α} (e : rs[i]? = some r) : i < n := by
  have := (List.getElem?_eq_some_iff.1 e).1; have := h.len; omega
theorem OwnG.nil {α : Type} {sz : Nat} {hd : α → List Int} {ln : α → Nat} {At : World → Nat → α → Prop} (w : World) (base b : Nat) (g : Nat → Nat) : OwnG sz hd ln At w base b 0 [] g :=
  ⟨rfl, fun i r e => by simp at e, fun i r e => by simp at e, fun i h => by omega, fun i h => by omega, fun i h => by omega, fun i r e => by simp at e, fun i j h => by omega⟩
theorem OwnG.of_blocks {α : Type} {sz : Nat} {hd : α → List Int} {ln : α → Nat} {At : World → Nat → α → Prop} (hAt : ∀ (w w' : World) (b : Nat) (r : α), w'.heap[b]? = w.heap[b]? → At w b r → At w' b r) {w w' : World} {base b n : Nat} {rs : List α} {g : Nat → Nat} (h : OwnG sz hd ln At w base b n rs g) (hs : w.heap.size ≤ w'.heap.size) (eb : w'.heap[b]? = w.heap[b]?) (eg : ∀ i, i < n → w'.heap[g i]? = w.heap[g i]?) : OwnG sz hd ln At w' base b n rs g := by
  refine ⟨h.len, fun i r e t z ht => (World.cell?_of_block (a := ⟨b, i * sz + t, none⟩) eb).trans (h.head i r e t z ht), fun i r e => ?_, h.low, fun i hi => Nat.lt_of_lt_of_le (h.lt i hi) hs, h.ne, fun i r e => hAt _ _ _ _ (eg i (h.idx e)) (h.sub i r e), h.inj⟩
  obtain ⟨cap, h1, h2⟩ := h.tail i r e
  exact ⟨cap, (World.cell?_of_block (a := ⟨b, i * sz + (sz - 1), none⟩) eb).trans h1, h2⟩
theorem OwnG.later {α : Type} {sz : Nat} {hd : α → List Int} {ln : α → Nat} {At : World → Nat → α → Prop} (hAt : ∀ (w w' : World) (b : Nat) (r : α), w'.heap[b]? = w.heap[b]? → At w b r → At w' b r) {w w' : World} {base b n : Nat} {rs : List α} {g : Nat → Nat} (h : OwnG sz hd ln At w base b n rs g) (hb : Below w.heap.size w w') (hlt : b < w.heap.size) : OwnG sz hd ln At w' base b n rs g :=
  h.of_blocks hAt hb.size (hb.block b hlt) (fun i hi => hb.block _ (h.lt i hi))
/-- One struct more, stored behind the others. -/
theorem OwnG.next {α : Type} {sz : Nat} {hd : α → List Int} {ln : α → Nat} {At : World → Nat → α → Prop} (hAt : ∀ (w w' : World) (b : Nat) (r : α), w'.heap[b]? = w.heap[b]? → At w b r → At w' b r) {w V : World} {base b j : Nat} {rs : List α} {g : Nat → Nat} {r : α} {q cap : Nat} (h : OwnG sz hd ln At w base b j rs g) (hz : 0 < sz) (hh : ∀ r : α, (hd r).length < sz)
    (hs : w.heap.size ≤ V.heap.size) (hb : ∀ x, x ≠ b → V.heap[x]? = w.heap[x]?) (hold : ∀ o, o < j * sz → V.cell? ⟨b, o, none⟩ = w.cell? ⟨b, o, none⟩) (hhd : ∀ t z, (hd r)[t]? = some z → V.cell? ⟨b, j * sz + t, none⟩ = some (.int .i64 z)) (htl : V.cell? ⟨b, j * sz + (sz - 1), none⟩ = some (.slice (some ⟨q, 0, none⟩) (ln r) cap)) (hcp : ln r ≤ cap)
    (hq : base ≤ q) (hl : q < V.heap.size) (hn : q ≠ b) (hat : At V q r) (hf : ∀ i, i < j → g i ≠ q) : OwnG sz hd ln At V base b (j + 1) (rs ++ [r]) (fun i => if i = j then q else g i) := by
  have hlen := h.len
  have lo : ∀ i t, i < j → t < sz → i * sz + t < j * sz := fun i t hi ht => by
    have : (i + 1) * sz ≤ j * sz := Nat.mul_le_mul_right sz (by omega)
    rw [Nat.add_mul] at this; omega
  have split : ∀ i y, (rs ++ [r])[i]? = some y → (i < j ∧ rs[i]? = some y) ∨ (i = j ∧ y = r) := fun i y e => by
    by_cases hi : i < rs.length
    · rw [List.getElem?_append_left hi] at e
      exact .inl ⟨by omega, e⟩
    · rw [List.getElem?_append_right (by omega)] at e
      have h0 : i - rs.length = 0 := by
        rcases Nat.eq_zero_or_pos (i - rs.length) with h | h
        · exact h
        · rw [List.getElem?_eq_none (by simp; omega)] at e; cases e
      rw [h0] at e
      simp at e
      exact .inr ⟨by omega, e.symm⟩
  refine ⟨by simp [hlen], fun i y e t z ht => ?_, fun i y e => ?_, fun i hi => ?_, fun i hi => ?_, fun i hi => ?_, fun i y e => ?_, fun i k hi hk e => ?_⟩
  · rcases split i y e with ⟨hi, e⟩ | ⟨rfl, rfl⟩
    · rw [hold _ (lo i t hi (Nat.lt_trans (List.getElem?_eq_some_iff.1 ht).1 (hh y)))]; exact h.head i y e t z ht
    · exact hhd t z ht
  · rcases split i y e with ⟨hi, e⟩ | ⟨rfl, rfl⟩
    · rw [if_neg (by omega), hold _ (lo i _ hi (by omega))]; exact h.tail i y e
    · rw [if_pos rfl]; exact ⟨cap, htl, hcp⟩
  · by_cases e : i = j
    · rw [if_pos e]; exact hq
    · rw [if_neg e]; exact h.low i (by omega)
  · by_cases e : i = j
    · rw [if_pos e]; exact hl
    · rw [if_neg e]; exact Nat.lt_of_lt_of_le (h.lt i (by omega)) hs
  · by_cases e : i = j
    · rw [if_pos e]; exact hn
    · rw [if_neg e]; exact h.ne i (by omega)
  · rcases split i y e with ⟨hi, e⟩ | ⟨rfl, rfl⟩
    · rw [if_neg (by omega)]; exact hAt _ _ _ _ (hb _ (h.ne i hi)) (h.sub i y e)
    · rw [if_pos rfl]; exact hat
  · by_cases ei : i = j <;> by_cases ek : k = j
    · omega
    · simp only [if_pos ei, if_neg ek] at e; exact absurd e.symm (hf k (by omega))
    · simp only [if_neg ei, if_pos ek] at e; exact absurd e (hf i (by omega))
    · simp only [if_neg ei, if_neg ek] at e; exact h.inj i k (by omega) (by omega) e
end Go.Proofs.YtooalbdlknheeaaGreat
/- The laws' own copies of Sets, cells and records, with room to be marked. -/
namespace Go.Proofs.YtooalbdlknheeaaGreat
open Go.RowKit
open Go.Sort (grow)
set_option maxHeartbeats 1000000 in
theorem toSetS_someR (w : World) (b off n cap : Nat) (xs : List S5) (hx : xs.length = n) (hn : n ≤ 1048576) (hb : b < w.heap.size) (hs : SetsAt w b off xs) : Calls Tryz.prog 101 #[.slice (some ⟨b, off, none⟩) n cap] w fun e w' =>
    e = .returned (.slice (some ⟨w.heap.size, 0, none⟩) n n) ∧ Below w.heap.size w w' ∧ w.heap.size < w'.heap.size ∧ SetsAt w' w.heap.size 0 xs ∧ Room w' w.heap.size (n * 5) := by
  have hmk := make_sets n hn
  go_enter Tryz.func101, Tryz.ntmps101
  go_wp2
  go_loopw [4] (fun i wr => ∃ k : Nat, k ≤ n ∧ i = .int .i64 k ∧ Below w.heap.size w wr ∧ w.heap.size < wr.heap.size ∧ Room wr w.heap.size (n * 5) ∧ SetsAt wr w.heap.size 0 (xs.take k))
     (fun i _ => n - (intOf i).toNat)
  case atStart => exact ⟨0, Nat.zero_le _, rfl, (Below.refl _ _).alloc (Nat.le_refl _) _, by simp, room_made _ _ _ _, fun i s e => by simp at e⟩
  case round =>
    obtain ⟨k, hk, rfl, hbl, hsz, hro, hdo⟩ := hrel
    by_cases hlt : k < n
    · have hs' := hs.below hbl hb
      obtain ⟨s, hsk⟩ : ∃ s, xs[k]? = some s := ⟨xs[k]'(by omega), by simp⟩
      obtain ⟨c0, c1, c2, c3, c4⟩ := hs' k s hsk
      clear hs' hmk
      have K : Hid (Room wr w.heap.size (n * 5) ∧ SetsAt wr w.heap.size 0 (xs.take k) ∧ xs[k]? = some s ∧ Below w.heap.size w wr) := ⟨hro, hdo, hsk, hbl⟩
      clear hro hdo hsk hbl
      go_wp2_with fail
      refine (toSet_any _ s).mono ?_
      rintro e w1 ⟨rfl, b1⟩
      obtain ⟨hro, hdo, hsk, hbl⟩ := K.out
      have hro1 := hro.below b1 hsz
      have hdo1 := hdo.below b1 hsz
      obtain ⟨v0, d0, f0⟩ := hro1 (k * 5) (by omega)
      obtain ⟨v1, d1, f1⟩ := hro1 (k * 5 + 1) (by omega)
      obtain ⟨v2, d2, f2⟩ := hro1 (k * 5 + 2) (by omega)
      obtain ⟨v3, d3, f3⟩ := hro1 (k * 5 + 3) (by omega)
      obtain ⟨v4, d4, f4⟩ := hro1 (k * 5 + 4) (by omega)
      clear hro hdo hsk hbl
      have K2 : Hid (Room w1 w.heap.size (n * 5) ∧ SetsAt w1 w.heap.size 0 (xs.take k)) := ⟨hro1, hdo1⟩
      clear hro1 hdo1
      go_wp2
      obtain ⟨hro, hdo, hsk, hbl⟩ := K.out
      obtain ⟨hro1, hdo1⟩ := K2.out
      have hbl1 := hbl.trans (b1.mono (Nat.le_of_lt hsz))
      refine ⟨⟨k + 1, by omega, by simp, ((((hbl1.setCell (p := ⟨w.heap.size, k * 5, none⟩) (Nat.le_refl _) _).setCell (p := ⟨w.heap.size, k * 5 + 1, none⟩) (Nat.le_refl _) _).setCell (p := ⟨w.heap.size, k * 5 + 2, none⟩) (Nat.le_refl _) _).setCell (p := ⟨w.heap.size, k * 5 + 3, none⟩) (Nat.le_refl _) _).setCell (p := ⟨w.heap.size, k * 5 + 4, none⟩) (Nat.le_refl _) _,
        by have := b1.size; simp [World.setCell]; omega, ((((hro1.set _).set _).set _).set _).set _, hdo1.put hsk hro1 (by omega)⟩, by simp [intOf]; omega⟩
    · have : k = n := by omega
      subst this
      have hd : decide (k < k) = false := by simp
      go_wp2
      go_ret
      refine ⟨rfl, hbl, hsz, ?_, hro⟩
      rw [← hx, List.take_length] at hdo
      exact hdo
theorem toSetS_anyR (w : World) (a : Option Addr) (n cap : Nat) (xs : List S5) (hn : n ≤ 1048576) (hs : Sl w w.heap.size a n xs) : Calls Tryz.prog 101 #[.slice a n cap] w fun e w' =>
    e = .returned (.slice (some ⟨w.heap.size, 0, none⟩) n n) ∧ Below w.heap.size w w' ∧ w.heap.size < w'.heap.size ∧ SetsAt w' w.heap.size 0 xs ∧ Room w' w.heap.size (n * 5) := by
  obtain ⟨h1, h2⟩ := hs
  rcases h2 with rfl | ⟨b, off, rfl, hb, hx⟩
  · refine (toSetS_none w a cap).mono ?_
    rintro e w' ⟨rfl, h, h'⟩
    exact ⟨rfl, h, h', (fun i s e => by rw [List.eq_nil_of_length_eq_zero h1] at e; simp at e), fun j hj => by omega⟩
  · exact toSetS_someR w b off n cap xs h1 hn hb hx
set_option maxHeartbeats 1000000 in
theorem toCellS_someR (w : World) (b off n cap : Nat) (xs : List C2) (hx : xs.length = n) (hn : n ≤ 1048576) (hb : b < w.heap.size) (hs : CellsAt w b off xs) : Calls Tryz.prog 32 #[.slice (some ⟨b, off, none⟩) n cap] w fun e w' =>
    e = .returned (.slice (some ⟨w.heap.size, 0, none⟩) n n) ∧ Below w.heap.size w w' ∧ w.heap.size < w'.heap.size ∧ CellsAt w' w.heap.size 0 xs ∧ Room w' w.heap.size (n * 2) := by
  have hmk := make_cells n hn
  go_enter Tryz.func32, Tryz.ntmps32
  go_wp2
  go_loopw [4] (fun i wr => ∃ k : Nat, k ≤ n ∧ i = .int .i64 k ∧ Below w.heap.size w wr ∧ w.heap.size < wr.heap.size ∧ Room wr w.heap.size (n * 2) ∧ CellsAt wr w.heap.size 0 (xs.take k))
     (fun i _ => n - (intOf i).toNat)
  case atStart => exact ⟨0, Nat.zero_le _, rfl, (Below.refl _ _).alloc (Nat.le_refl _) _, by simp, room_made _ _ _ _, fun i s e => by simp at e⟩
  case round =>
    obtain ⟨k, hk, rfl, hbl, hsz, hro, hdo⟩ := hrel
    by_cases hlt : k < n
    · have hs' := hs.below hbl hb
      obtain ⟨s, hsk⟩ : ∃ s, xs[k]? = some s := ⟨xs[k]'(by omega), by simp⟩
      obtain ⟨c0, c1⟩ := hs' k s hsk
      clear hs' hmk
      have K : Hid (Room wr w.heap.size (n * 2) ∧ CellsAt wr w.heap.size 0 (xs.take k) ∧ xs[k]? = some s ∧ Below w.heap.size w wr) := ⟨hro, hdo, hsk, hbl⟩
      clear hro hdo hsk hbl
      go_wp2_with fail
      refine (toCell_any _ s).mono ?_
      rintro e w1 ⟨rfl, b1⟩
      obtain ⟨hro, hdo, hsk, hbl⟩ := K.out
      have hro1 := hro.below b1 hsz
      have hdo1 := hdo.below b1 hsz
      obtain ⟨v0, d0, f0⟩ := hro1 (k * 2) (by omega)
      obtain ⟨v1, d1, f1⟩ := hro1 (k * 2 + 1) (by omega)
      clear hro hdo hsk hbl
      have K2 : Hid (Room w1 w.heap.size (n * 2) ∧ CellsAt w1 w.heap.size 0 (xs.take k)) := ⟨hro1, hdo1⟩
      clear hro1 hdo1
      go_wp2
      obtain ⟨hro, hdo, hsk, hbl⟩ := K.out
      obtain ⟨hro1, hdo1⟩ := K2.out
      have hbl1 := hbl.trans (b1.mono (Nat.le_of_lt hsz))
      refine ⟨⟨k + 1, by omega, by simp, (hbl1.setCell (p := ⟨w.heap.size, k * 2, none⟩) (Nat.le_refl _) _).setCell (p := ⟨w.heap.size, k * 2 + 1, none⟩) (Nat.le_refl _) _,
        by have := b1.size; simp [World.setCell]; omega, (hro1.set _).set _, hdo1.put hsk hro1 (by omega)⟩, by simp [intOf]; omega⟩
    · have : k = n := by omega
      subst this
      have hd : decide (k < k) = false := by simp
      go_wp2
      go_ret
      refine ⟨rfl, hbl, hsz, ?_, hro⟩
      rw [← hx, List.take_length] at hdo
      exact hdo
theorem toCellS_anyR (w : World) (a : Option Addr) (n cap : Nat) (xs : List C2) (hn : n ≤ 1048576) (hs : SlC w w.heap.size a n xs) : Calls Tryz.prog 32 #[.slice a n cap] w fun e w' =>
    e = .returned (.slice (some ⟨w.heap.size, 0, none⟩) n n) ∧ Below w.heap.size w w' ∧ w.heap.size < w'.heap.size ∧ CellsAt w' w.heap.size 0 xs ∧ Room w' w.heap.size (n * 2) := by
  obtain ⟨h1, h2⟩ := hs
  rcases h2 with rfl | ⟨b, off, rfl, hb, hx⟩
  · refine (toCellS_none w a cap).mono ?_
    rintro e w' ⟨rfl, h, h'⟩
    exact ⟨rfl, h, h', (fun i s e => by rw [List.eq_nil_of_length_eq_zero h1] at e; simp at e), fun j hj => by omega⟩
  · exact toCellS_someR w b off n cap xs h1 hn hb hx
set_option maxHeartbeats 1000000 in
theorem toRecord_anyR (w : World) (k t r : Int) (a : Option Addr) (n cap : Nat) (xs : List S5) (hn : n ≤ 1048576) (hs : Sl w w.heap.size a n xs) : Calls Tryz.prog 39 #[.agg #[.int .i64 k, .int .i64 t, .int .i64 r, .slice a n cap]] w fun e w' =>
    ∃ g, e = .returned (.agg #[.int .i64 k, .int .i64 t, .int .i64 r, .slice (some ⟨g, 0, none⟩) n n]) ∧ Below w.heap.size w w' ∧ w.heap.size ≤ g ∧ g < w'.heap.size ∧ SetsAt w' g 0 xs ∧ Room w' g (n * 5) := by
  go_enter Tryz.func39, Tryz.ntmps39
  go_wp2_with fail
  generalize hW : ((w.alloc (.cells #[.int .i64 k, .int .i64 t, .int .i64 r, .slice a n cap] 68)).alloc (.cells #[.int .i64 0, .int .i64 0, .int .i64 0, .slice none 0 0] 41)).alloc (.cells #[.int .i64 k, .int .i64 t, .int .i64 r, .slice none 0 0] 41) = W
  have hsz : W.heap.size = w.heap.size + 3 := by subst hW; simp
  have bW : Below w.heap.size w W := by subst hW; exact (((Below.refl _ _).alloc (Nat.le_refl _) _).alloc (by simp) _).alloc (by simp; omega) _
  have d0 : W.cell? ⟨w.heap.size + 1 + 1, 0, none⟩ = some (.int .i64 k) := by subst hW; go_simp
  have d1 : W.cell? ⟨w.heap.size + 1 + 1, 1, none⟩ = some (.int .i64 t) := by subst hW; go_simp
  have d2 : W.cell? ⟨w.heap.size + 1 + 1, 2, none⟩ = some (.int .i64 r) := by subst hW; go_simp
  have d3 : W.cell? ⟨w.heap.size + 1 + 1, 3, none⟩ = some (.slice none 0 0) := by subst hW; go_simp
  have e0 : W.cell? ⟨w.heap.size + 1, 0, none⟩ = some (.int .i64 0) := by subst hW; go_simp
  have e1 : W.cell? ⟨w.heap.size + 1, 1, none⟩ = some (.int .i64 0) := by subst hW; go_simp
  have e2 : W.cell? ⟨w.heap.size + 1, 2, none⟩ = some (.int .i64 0) := by subst hW; go_simp
  have e3 : W.cell? ⟨w.heap.size + 1, 3, none⟩ = some (.slice none 0 0) := by subst hW; go_simp
  have f3 : W.frozen? ⟨w.heap.size + 1 + 1, 3, none⟩ = false := by subst hW; go_simp
  have g0 : ∀ j, W.frozen? ⟨w.heap.size + 1, j, none⟩ = false := by intro j; subst hW; go_simp
  clear hW
  have hs3 : Sl W W.heap.size a n xs := (hs.below bW).mono (by omega)
  refine (toSetS_anyR _ a n cap xs hn hs3).mono ?_
  rintro e w1 ⟨rfl, b1, l1, s1, r1⟩
  rw [← b1.cell (p := ⟨w.heap.size + 1 + 1, 0, none⟩) (by simp; omega)] at d0
  rw [← b1.cell (p := ⟨w.heap.size + 1 + 1, 1, none⟩) (by simp; omega)] at d1
  rw [← b1.cell (p := ⟨w.heap.size + 1 + 1, 2, none⟩) (by simp; omega)] at d2
  rw [← b1.cell (p := ⟨w.heap.size + 1 + 1, 3, none⟩) (by simp; omega)] at d3
  rw [← b1.cell (p := ⟨w.heap.size + 1, 0, none⟩) (by simp; omega)] at e0
  rw [← b1.cell (p := ⟨w.heap.size + 1, 1, none⟩) (by simp; omega)] at e1
  rw [← b1.cell (p := ⟨w.heap.size + 1, 2, none⟩) (by simp; omega)] at e2
  rw [← b1.cell (p := ⟨w.heap.size + 1, 3, none⟩) (by simp; omega)] at e3
  rw [← b1.frozen (p := ⟨w.heap.size + 1 + 1, 3, none⟩) (by simp; omega)] at f3
  have g0' := (b1.frozen (p := ⟨w.heap.size + 1, 0, none⟩) (by simp; omega)).trans (g0 0)
  have g1' := (b1.frozen (p := ⟨w.heap.size + 1, 1, none⟩) (by simp; omega)).trans (g0 1)
  have g2' := (b1.frozen (p := ⟨w.heap.size + 1, 2, none⟩) (by simp; omega)).trans (g0 2)
  have g3' := (b1.frozen (p := ⟨w.heap.size + 1, 3, none⟩) (by simp; omega)).trans (g0 3)
  have K : Hid (SetsAt w1 W.heap.size 0 xs ∧ Room w1 W.heap.size (n * 5)) := ⟨s1, r1⟩
  have K2 : Hid (W.heap.size = w.heap.size + 3) := hsz
  clear s1 r1 g0 hs3 hsz
  go_wp2
  have hsz := K2.out
  refine bodyPost_ret (v := .agg #[.int .i64 k, .int .i64 t, .int .i64 r, .slice (some ⟨W.heap.size, 0, none⟩) n n]) (by simp [results, Tryz.results39, go_sem, e0, e1, e2, e3]) rfl ⟨W.heap.size, rfl, ?_, by omega, ?_, ?_, ?_⟩
  · exact (((((bW.trans (b1.mono (by omega))).setCell (p := ⟨_, _, none⟩) (by simp; omega) _).setCell (p := ⟨_, _, none⟩) (by simp) _).setCell (p := ⟨_, _, none⟩) (by simp) _).setCell (p := ⟨_, _, none⟩) (by simp) _).setCell (p := ⟨_, _, none⟩) (by simp) _
  · simpa [World.setCell] using l1
  · exact ((((K.out.1.far (by simp; omega) _).far (by simp; omega) _).far (by simp; omega) _).far (by simp; omega) _).far (by simp; omega) _
  · exact K.out.2.of_block ((Below.heap_setCell _ _ _ _ (by simp; omega)).trans ((Below.heap_setCell _ _ _ _ (by simp; omega)).trans ((Below.heap_setCell _ _ _ _ (by simp; omega)).trans ((Below.heap_setCell _ _ _ _ (by simp; omega)).trans (Below.heap_setCell _ _ _ _ (by simp; omega))))))
end Go.Proofs.YtooalbdlknheeaaGreat
/- The laws' own copies of rows of records and of rows of copies, and of a machine. -/
namespace Go.Proofs.YtooalbdlknheeaaGreat
open Go.RowKit
set_option maxHeartbeats 1000000 in
theorem toCopy_anyR (w : World) (r : Int) (a : Option Addr) (n cap : Nat) (xs : List C2) (hn : n ≤ 1048576) (hs : SlC w w.heap.size a n xs) : Calls Tryz.prog 150 #[.agg #[.int .i64 r, .slice a n cap]] w fun e w' =>
    ∃ g, e = .returned (.agg #[.int .i64 r, .slice (some ⟨g, 0, none⟩) n n]) ∧ Below w.heap.size w w' ∧ w.heap.size ≤ g ∧ g < w'.heap.size ∧ CellsAt w' g 0 xs ∧ Room w' g (n * 2) := by
  go_enter Tryz.func150, Tryz.ntmps150
  go_wp2_with fail
  generalize hW : ((w.alloc (.cells #[.int .i64 r, .slice a n cap] 171)).alloc (.cells #[.int .i64 0, .slice none 0 0] 97)).alloc (.cells #[.int .i64 r, .slice none 0 0] 97) = W
  have hsz : W.heap.size = w.heap.size + 3 := by subst hW; simp
  have bW : Below w.heap.size w W := by subst hW; exact (((Below.refl _ _).alloc (Nat.le_refl _) _).alloc (by simp) _).alloc (by simp; omega) _
  have d0 : W.cell? ⟨w.heap.size + 1 + 1, 0, none⟩ = some (.int .i64 r) := by subst hW; go_simp
  have d1 : W.cell? ⟨w.heap.size + 1 + 1, 1, none⟩ = some (.slice none 0 0) := by subst hW; go_simp
  have e0 : W.cell? ⟨w.heap.size + 1, 0, none⟩ = some (.int .i64 0) := by subst hW; go_simp
  have e1 : W.cell? ⟨w.heap.size + 1, 1, none⟩ = some (.slice none 0 0) := by subst hW; go_simp
  have f1 : W.frozen? ⟨w.heap.size + 1 + 1, 1, none⟩ = false := by subst hW; go_simp
  have g0 : ∀ j, W.frozen? ⟨w.heap.size + 1, j, none⟩ = false := by intro j; subst hW; go_simp
  clear hW
  have hs3 : SlC W W.heap.size a n xs := (hs.below bW).mono (by omega)
  refine (toCellS_anyR _ a n cap xs hn hs3).mono ?_
  rintro e w1 ⟨rfl, b1, l1, s1, r1⟩
  rw [← b1.cell (p := ⟨w.heap.size + 1 + 1, 0, none⟩) (by simp; omega)] at d0
  rw [← b1.cell (p := ⟨w.heap.size + 1 + 1, 1, none⟩) (by simp; omega)] at d1
  rw [← b1.cell (p := ⟨w.heap.size + 1, 0, none⟩) (by simp; omega)] at e0
  rw [← b1.cell (p := ⟨w.heap.size + 1, 1, none⟩) (by simp; omega)] at e1
  rw [← b1.frozen (p := ⟨w.heap.size + 1 + 1, 1, none⟩) (by simp; omega)] at f1
  have g0' := (b1.frozen (p := ⟨w.heap.size + 1, 0, none⟩) (by simp; omega)).trans (g0 0)
  have g1' := (b1.frozen (p := ⟨w.heap.size + 1, 1, none⟩) (by simp; omega)).trans (g0 1)
  have K : Hid (CellsAt w1 W.heap.size 0 xs ∧ Room w1 W.heap.size (n * 2)) := ⟨s1, r1⟩
  have K2 : Hid (W.heap.size = w.heap.size + 3) := hsz
  clear s1 r1 g0 hs3 hsz
  go_wp2
  have hsz := K2.out
  refine bodyPost_ret (v := .agg #[.int .i64 r, .slice (some ⟨W.heap.size, 0, none⟩) n n]) (by simp [results, Tryz.results150, go_sem, e0, e1]) rfl ⟨W.heap.size, rfl, ?_, by omega, ?_, ?_, ?_⟩
  · exact (((bW.trans (b1.mono (by omega))).setCell (p := ⟨_, _, none⟩) (by simp; omega) _).setCell (p := ⟨_, _, none⟩) (by simp) _).setCell (p := ⟨_, _, none⟩) (by simp) _
  · simpa [World.setCell] using l1
  · exact ((K.out.1.far (by simp; omega) _).far (by simp; omega) _).far (by simp; omega) _
  · exact K.out.2.of_block ((Below.heap_setCell _ _ _ _ (by simp; omega)).trans ((Below.heap_setCell _ _ _ _ (by simp; omega)).trans (Below.heap_setCell _ _ _ _ (by simp; omega))))
def hdR (r : R4) : List Int := [r.kind, r.tx, r.region]
def lnR (r : R4) : Nat := r.sets.length
def AtR (w : World) (b : Nat) (r : R4) : Prop := SetsAt w b 0 r.sets ∧ Room w b (r.sets.length * 5)
theorem SetsAt.of_block {w w' : World} {b off : Nat} {xs : List S5} (h : SetsAt w b off xs) (e : w'.heap[b]? = w.heap[b]?) : SetsAt w' b off xs := fun i s hs => by
  obtain ⟨c0, c1, c2, c3, c4⟩ := h i s hs
  exact ⟨(World.cell?_of_block (a := ⟨b, _, none⟩) e).trans c0, (World.cell?_of_block (a := ⟨b, _, none⟩) e).trans c1, (World.cell?_of_block (a := ⟨b, _, none⟩) e).trans c2, (World.cell?_of_block (a := ⟨b, _, none⟩) e).trans c3, (World.cell?_of_block (a := ⟨b, _, none⟩) e).trans c4⟩
theorem CellsAt.of_block {w w' : World} {b off : Nat} {xs : List C2} (h : CellsAt w b off xs) (e : w'.heap[b]? = w.heap[b]?) : CellsAt w' b off xs := fun i s hs => by
  obtain ⟨c0, c1⟩ := h i s hs
  exact ⟨(World.cell?_of_block (a := ⟨b, _, none⟩) e).trans c0, (World.cell?_of_block (a := ⟨b, _, none⟩) e).trans c1⟩
theorem AtR.of_block (w w' : World) (b : Nat) (r : R4) (e : w'.heap[b]? = w.heap[b]?) (h : AtR w b r) : AtR w' b r := ⟨h.1.of_block e, h.2.of_block e⟩
def hdK (k : K2) : List Int := [k.region]
def lnK (k : K2) : Nat := k.cells.length
def AtK (w : World) (b : Nat) (k : K2) : Prop := CellsAt w b 0 k.cells ∧ Room w b (k.cells.length * 2)
theorem AtK.of_block (w w' : World) (b : Nat) (r : K2) (e : w'.heap[b]? = w.heap[b]?) (h : AtK w b r) : AtK w' b r := ⟨h.1.of_block e, h.2.of_block e⟩
theorem ownR_sl {w : World} {base b n : Nat} {rs : List R4} {g : Nat → Nat} (h : OwnG 4 hdR lnR AtR w base b n rs g) (hb : b < w.heap.size) : SlR w w.heap.size (some ⟨b, 0, none⟩) n rs :=
  ⟨h.len, .inr ⟨b, 0, rfl, hb, fun i r e => by
    rw [Nat.zero_add]
    obtain ⟨cap, h1, h2⟩ := h.tail i r e
    exact ⟨h.head i r e 0 _ rfl, h.head i r e 1 _ rfl, h.head i r e 2 _ rfl, _, cap, h1, ⟨rfl, .inr ⟨_, 0, rfl, h.lt i (h.idx e), (h.sub i r e).1⟩⟩, h2⟩⟩⟩
theorem ownK_sl {w : World} {base b n : Nat} {rs : List K2} {g : Nat → Nat} (h : OwnG 2 hdK lnK AtK w base b n rs g) (hb : b < w.heap.size) : SlK w w.heap.size (some ⟨b, 0, none⟩) n rs :=
  ⟨h.len, .inr ⟨b, 0, rfl, hb, fun i r e => by
    rw [Nat.zero_add]
    obtain ⟨cap, h1, h2⟩ := h.tail i r e
    exact ⟨h.head i r e 0 _ rfl, _, cap, h1, ⟨rfl, .inr ⟨_, 0, rfl, h.lt i (h.idx e), (h.sub i r e).1⟩⟩, h2⟩⟩⟩
end Go.Proofs.YtooalbdlknheeaaGreat
