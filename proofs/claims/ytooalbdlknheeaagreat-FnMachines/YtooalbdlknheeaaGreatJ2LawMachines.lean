/- NumRow; NumMark; Pls: joined. -/
import Derived.Test.YtooalbdlknheeaaGreatRows
import Derived.Test.YtooalbdlknheeaaGreatJ0LawMachines
import Derived.WalkKit
import Derived.WalkSpells
import Derived.WalkLawsBesides
import Derived.Below
import Derived.BigQuiet
import Derived.Deep.QuietTactic
/- Rows of numbers in memory; the laws' own copies, comparisons, marks and counts of them; the specification's l3Has. -/
namespace Go.Proofs.YtooalbdlknheeaaGreat
open Go.RowKit
theorem below_dn {B : Nat} {a w : World} (h : Below B a w) (n : Nat) : Below B a (w.drewN n) := ⟨h.os, h.tape, h.output, h.size, h.block⟩
def NumsAt (w : World) (b off : Nat) (zs : List Int) : Prop := ∀ i z, zs[i]? = some z → w.cell? ⟨b, off + i, none⟩ = some (.int .i64 z)
theorem NumsAt.below {w w' : World} {B b off : Nat} {zs : List Int} (h : NumsAt w b off zs) (hb : Below B w w') (hB : b < B) : NumsAt w' b off zs := fun i z e => by rw [hb.cell (p := ⟨b, off + i, none⟩) hB]; exact h i z e
/-- The slice (a, n) holds the numbers zs, in a block below B. -/
def SlN (w : World) (B : Nat) (a : Option Addr) (n : Nat) (zs : List Int) : Prop := zs.length = n ∧ (n = 0 ∨ ∃ b off, a = some ⟨b, off, none⟩ ∧ b < B ∧ NumsAt w b off zs)
theorem SlN.later {w w' : World} {a : Option Addr} {n : Nat} {zs : List Int} (h : SlN w w.heap.size a n zs) (hb : Below w.heap.size w w') : SlN w' w'.heap.size a n zs := by
  obtain ⟨h1, h2⟩ := h
  refine ⟨h1, ?_⟩
  rcases h2 with h2 | ⟨b, off, ha, hB, hx⟩
  · exact .inl h2
  · exact .inr ⟨b, off, ha, Nat.lt_of_lt_of_le hB hb.size, hx.below hb hB⟩
def atN (zs : List Int) (i : Nat) : Int := zs[i]?.getD 0
theorem atN_of {zs : List Int} {i : Nat} (h : i < zs.length) : zs[i]? = some (atN zs i) := by simp [atN, List.getElem?_eq_getElem h]
def hasB (zs : List Int) (z : Int) : Bool := zs.any (fun y => decide (y = z))
theorem has_yes {zs : List Int} {z : Int} {i : Nat} (hi : i < zs.length) (h : atN zs i = z) : hasB zs z = true := by
  rw [hasB, List.any_eq_true]
  exact ⟨atN zs i, List.mem_of_getElem? (atN_of hi), by simp [h]⟩
theorem has_no {zs : List Int} {z : Int} (h : ∀ i, i < zs.length → atN zs i ≠ z) : hasB zs z = false := by
  rw [hasB, List.any_eq_false]
  intro y hy
  obtain ⟨i, hi, rfl⟩ := List.getElem_of_mem hy
  have := h i hi
  rw [atN, List.getElem?_eq_getElem hi] at this
  simpa using this
set_option maxHeartbeats 1000000 in
theorem make_nums (n : Nat) (hn : n ≤ 1048576) (w : World) : (Instr.makeSlice 26 (.int .i64 (n : Int)) (.int .i64 (n : Int))).run Tryz.prog w = .ok (.slice (some ⟨w.heap.size, 0, none⟩) n n) (w.alloc (.cells (madeCells #[.int .i64 0] n) 2)) := by
  have info : (Tryz.prog.info? 2).map (fun i => (i.zero, i.size, i.bytes)) = some (some (.int .i64 0), 1, 8) := by kernel_rfl
  obtain ⟨i, hi, hzz⟩ := Option.map_eq_some_iff.1 info
  simp only [Prod.mk.injEq] at hzz
  obtain ⟨hz, hs, hb⟩ := hzz
  have := run_make (P := Tryz.prog) w 26 2 i _ Tryz.underlying26 hi hz .i64 .i64 (n : Int) (n : Int) (by omega) (by omega) (by rw [hb]; omega) (by omega)
  rw [hs] at this
  simpa [Value.cells] using this
theorem NumsAt.put {w : World} {b k : Nat} {zs : List Int} {z : Int} (h : NumsAt w b 0 (zs.take k)) (hz : zs[k]? = some z) {v : Value} (hv : w.cell? ⟨b, k, none⟩ = some v) : NumsAt (w.setCell ⟨b, k, none⟩ (.int .i64 z)) b 0 (zs.take (k + 1)) := by
  intro i t e
  rw [List.getElem?_take] at e
  split at e
  · rename_i hi
    by_cases hik : i = k
    · subst hik
      rw [hz] at e
      obtain rfl := Option.some.inj e
      simpa using cell_set_same hv
    · have := h i t (by rw [List.getElem?_take, if_pos (by omega)]; exact e)
      rw [cell_set_other (by omega)]; exact this
  · cases e
set_option maxHeartbeats 1000000 in
theorem toInt64S_any (w : World) (a : Option Addr) (n cap : Nat) (zs : List Int) (hn : n ≤ 1048576) (hs : SlN w w.heap.size a n zs) : Calls Tryz.prog 88 #[.slice a n cap] w fun e w' =>
    e = .returned (.slice (some ⟨w.heap.size, 0, none⟩) n n) ∧ Below w.heap.size w w' ∧ w.heap.size < w'.heap.size ∧ NumsAt w' w.heap.size 0 zs ∧ Room w' w.heap.size n := by
  obtain ⟨hx, hs⟩ := hs
  have hmk := make_nums n hn
  go_enter Tryz.func88, Tryz.ntmps88
  go_wp2
  go_loopw [4] (fun i wr => ∃ k : Nat, k ≤ n ∧ i = .int .i64 k ∧ Below w.heap.size w wr ∧ w.heap.size < wr.heap.size ∧ Room wr w.heap.size n ∧ NumsAt wr w.heap.size 0 (zs.take k)) (fun i _ => n - (intOf i).toNat)
  case atStart => exact ⟨0, Nat.zero_le _, rfl, (Below.refl _ _).alloc (Nat.le_refl _) _, by simp, room_made _ _ _ _, fun i s e => by simp at e⟩
  case round =>
    obtain ⟨k, hk, rfl, hbl, hsz, hro, hdo⟩ := hrel
    by_cases hlt : k < n
    · rcases hs with hs | ⟨b, off, rfl, hb, h1⟩
      · omega
      · have c := (hbl.cell (p := ⟨b, off + k, none⟩) hb).trans (h1 k _ (atN_of (by omega)))
        obtain ⟨v, d, f⟩ := hro k hlt
        have K : Hid (Room wr w.heap.size n ∧ NumsAt wr w.heap.size 0 (zs.take k) ∧ zs[k]? = some (atN zs k) ∧ Below w.heap.size w wr) := ⟨hro, hdo, atN_of (by omega), hbl⟩
        clear hro hdo hbl hmk h1 hx
        go_wp2
        obtain ⟨hro, hdo, hz, hbl⟩ := K.out
        exact ⟨⟨k + 1, by omega, by simp, hbl.setCell (p := ⟨w.heap.size, k, none⟩) (Nat.le_refl _) _, by simpa [World.setCell] using hsz, hro.set _, hdo.put hz d⟩, by simp [intOf]; omega⟩
    · have : k = n := by omega
      subst this
      have hd : decide (k < k) = false := by simp
      rw [← hx, List.take_length] at hdo
      have K : Hid (NumsAt wr w.heap.size 0 zs ∧ Room wr w.heap.size k) := ⟨hdo, hro⟩
      clear hdo hs hro
      go_wp2
      go_ret
      exact ⟨rfl, hbl, hsz, K.out.1, K.out.2⟩
set_option maxHeartbeats 1000000 in
theorem eqInt64S_any (w : World) (a a' : Option Addr) (n cap cap' : Nat) (zs : List Int) (hn : n ≤ maxLen) (h1 : SlN w w.heap.size a n zs) (h2 : SlN w w.heap.size a' n zs) :
    Calls Tryz.prog 92 #[.slice a n cap, .slice a' n cap'] w fun e w' => e = .returned (.bool true) ∧ Below w.heap.size w w' := by
  unfold maxLen at hn
  obtain ⟨hx, h1⟩ := h1
  obtain ⟨_, h2⟩ := h2
  go_enter Tryz.func92, Tryz.ntmps92
  go_wp2
  go_loopw [5] (fun i wr => ∃ k : Nat, k ≤ n ∧ i = .int .i64 k ∧ Below w.heap.size w wr) (fun i _ => n - (intOf i).toNat)
  case atStart => exact ⟨0, Nat.zero_le _, rfl, Below.refl _ _⟩
  case round =>
    obtain ⟨k, hk, rfl, hbl⟩ := hrel
    by_cases hlt : k < n
    · rcases h1 with h1 | ⟨b, off, rfl, hb, h1⟩
      · omega
      · rcases h2 with h2 | ⟨b', off', rfl, hb', h2⟩
        · omega
        · have c1 := (hbl.cell (p := ⟨b, off + k, none⟩) hb).trans (h1 k _ (atN_of (by omega)))
          have c2 := (hbl.cell (p := ⟨b', off' + k, none⟩) hb').trans (h2 k _ (atN_of (by omega)))
          have hlt' : (k : Int) < (n : Int) := by omega
          have K : Hid (Below w.heap.size w wr) := hbl
          clear h1 h2 hbl hx
          go_wp2_with fail
          go_quiet (fail)
          go_wp2
          exact ⟨⟨k + 1, by omega, by simp, below_dn K.out _⟩, by simp [intOf]; omega⟩
    · have : k = n := by omega
      subst this
      have hd : decide (k < k) = false := by simp
      clear h1 h2
      go_wp2
      go_ret
      exact ⟨rfl, hbl⟩
end Go.Proofs.YtooalbdlknheeaaGreat
/- The laws' marks in rows of numbers, and that they stand. -/
namespace Go.Proofs.YtooalbdlknheeaaGreat
open Go.RowKit
/-- Consecutive numbers from k on. -/
def marks : Nat → Int → List Int
  | 0, _ => []
  | n + 1, k => k :: marks n (k + 1)
theorem marks_len : ∀ (n : Nat) (k : Int), (marks n k).length = n
  | 0, _ => rfl
  | n + 1, k => by simp [marks, marks_len n]
theorem marks_at : ∀ (n : Nat) (k : Int) (i : Nat), i < n → (marks n k)[i]? = some (k + i)
  | 0, _, _, h => by omega
  | n + 1, k, 0, _ => by simp [marks]
  | n + 1, k, i + 1, h => by
    rw [marks, List.getElem?_cons_succ, marks_at n (k + 1) i (by omega)]
    congr 1; omega
theorem marks_take (n : Nat) (k : Int) (i : Nat) (h : i ≤ n) : (marks n k).take i = marks i k := by
  induction n generalizing k i with
  | zero => obtain rfl : i = 0 := by omega
            simp [marks]
  | succ n ih =>
    cases i with
    | zero => simp [marks]
    | succ i => simp [marks, ih (k + 1) i (by omega)]
set_option maxHeartbeats 1000000 in
/-- The laws' marks in a row of the call's own: consecutive numbers; no other block is turned. -/
theorem markInt64S_own (w : World) (g n cap : Nat) (k : Int) (hn : n ≤ 1048576) (hk : 0 ≤ k) (hk' : k ≤ 1000000000) (hr : Room w g n) :
    Calls Tryz.prog 96 #[.slice (some ⟨g, 0, none⟩) n cap, .int .i64 k] w fun e w' => e = .returned (.int .i64 (k + n)) ∧ OnlyBlock g w w' ∧ NumsAt w' g 0 (marks n k) ∧ Room w' g n := by
  go_enter Tryz.func96, Tryz.ntmps96
  go_wp2
  go_loopw [1, 5] (fun v1 v5 wr => ∃ j : Nat, j ≤ n ∧ v5 = .int .i64 j ∧ v1 = .int .i64 (k + j) ∧ OnlyBlock g w wr ∧ Room wr g n ∧ NumsAt wr g 0 ((marks n k).take j)) (fun _ v5 _ => n - (intOf v5).toNat)
  case atStart => exact ⟨0, Nat.zero_le _, rfl, by simp, OnlyBlock.refl _ _, hr, fun i s e => by simp at e⟩
  case round =>
    obtain ⟨j, hj, rfl, rfl, ho, hro, hdo⟩ := hrel
    by_cases hlt : j < n
    · obtain ⟨v, d, f⟩ := hro j hlt
      have K : Hid (OnlyBlock g w wr ∧ Room wr g n ∧ NumsAt wr g 0 ((marks n k).take j)) := ⟨ho, hro, hdo⟩
      clear ho hro hdo hr
      go_wp2
      obtain ⟨ho, hro, hdo⟩ := K.out
      exact ⟨⟨j + 1, by omega, by simp, by simp; omega, ho.setCell _ _, hro.set _, hdo.put (marks_at n k j hlt) d⟩, by simp [intOf]; omega⟩
    · have : j = n := by omega
      subst this
      have hd : decide ((j : Int) < (j : Int)) = false := by simp
      rw [show (marks j k).take j = marks j k from List.take_of_length_le (by rw [marks_len]; omega)] at hdo
      have K : Hid (OnlyBlock g w wr ∧ NumsAt wr g 0 (marks j k) ∧ Room wr g j) := ⟨ho, hdo, hro⟩
      clear ho hdo hro hr
      go_wp2
      go_ret
      exact ⟨by simp, K.out.1, K.out.2.1, K.out.2.2⟩
set_option maxHeartbeats 1000000 in
theorem markInt64S_none (w : World) (a : Option Addr) (cap : Nat) (k : Int) : Calls Tryz.prog 96 #[.slice a 0 cap, .int .i64 k] w fun e w' => e = .returned (.int .i64 k) ∧ w' = w := by
  go_enter Tryz.func96, Tryz.ntmps96
  go_wp2
  go_loop [1, 5] (fun v1 v5 => v5 = .int .i64 0 ∧ v1 = .int .i64 k) (fun _ _ => 0)
  case atStart => exact ⟨rfl, rfl⟩
  case round =>
    obtain ⟨rfl, rfl⟩ := hrel
    go_wp2
    go_ret
    exact ⟨rfl, rfl⟩
end Go.Proofs.YtooalbdlknheeaaGreat
/- Rows of rows of numbers in memory (Places): what they hold; rows of a call's own. No program in sight. -/
namespace Go.Proofs.YtooalbdlknheeaaGreat
open Go.RowKit
/-- From place off on block b holds rows of the numbers zss, each below B. -/
def PlsAt (w : World) (B b off : Nat) (zss : List (List Int)) : Prop := ∀ i zs, zss[i]? = some zs → ∃ a cap, w.cell? ⟨b, off + i, none⟩ = some (.slice a zs.length cap) ∧ SlN w B a zs.length zs ∧ zs.length ≤ cap
def SlP (w : World) (B : Nat) (a : Option Addr) (n : Nat) (zss : List (List Int)) : Prop := zss.length = n ∧ (n = 0 ∨ ∃ b off, a = some ⟨b, off, none⟩ ∧ b < B ∧ PlsAt w B b off zss)
theorem SlN.below {w w' : World} {B : Nat} {a : Option Addr} {n : Nat} {zs : List Int} (h : SlN w B a n zs) (hb : Below B w w') : SlN w' B a n zs := by
  obtain ⟨h1, h2⟩ := h
  refine ⟨h1, ?_⟩
  rcases h2 with h2 | ⟨b, off, ha, hB, hx⟩
  · exact .inl h2
  · exact .inr ⟨b, off, ha, hB, hx.below hb hB⟩
theorem SlN.mono {w : World} {B B' : Nat} {a : Option Addr} {n : Nat} {zs : List Int} (h : SlN w B a n zs) (hB : B ≤ B') : SlN w B' a n zs := by
  obtain ⟨h1, h2⟩ := h
  refine ⟨h1, ?_⟩
  rcases h2 with h2 | ⟨b, off, ha, hb, hx⟩
  · exact .inl h2
  · exact .inr ⟨b, off, ha, by omega, hx⟩
theorem PlsAt.below {w w' : World} {B b off : Nat} {zss : List (List Int)} (h : PlsAt w B b off zss) (hb : Below B w w') (hB : b < B) : PlsAt w' B b off zss := fun i zs e => by
  obtain ⟨a, cap, h1, h2, h3⟩ := h i zs e
  exact ⟨a, cap, (hb.cell (p := ⟨b, off + i, none⟩) hB).trans h1, h2.below hb, h3⟩
theorem PlsAt.mono {w : World} {B B' b off : Nat} {zss : List (List Int)} (h : PlsAt w B b off zss) (hB : B ≤ B') : PlsAt w B' b off zss := fun i zs e => by
  obtain ⟨a, cap, h1, h2, h3⟩ := h i zs e
  exact ⟨a, cap, h1, h2.mono hB, h3⟩
theorem SlP.below {w w' : World} {B : Nat} {a : Option Addr} {n : Nat} {zss : List (List Int)} (h : SlP w B a n zss) (hb : Below B w w') : SlP w' B a n zss := by
  obtain ⟨h1, h2⟩ := h
  refine ⟨h1, ?_⟩
  rcases h2 with h2 | ⟨b, off, ha, hB, hx⟩
  · exact .inl h2
  · exact .inr ⟨b, off, ha, hB, hx.below hb hB⟩
theorem SlP.mono {w : World} {B B' : Nat} {a : Option Addr} {n : Nat} {zss : List (List Int)} (h : SlP w B a n zss) (hB : B ≤ B') : SlP w B' a n zss := by
  obtain ⟨h1, h2⟩ := h
  refine ⟨h1, ?_⟩
  rcases h2 with h2 | ⟨b, off, ha, hb, hx⟩
  · exact .inl h2
  · exact .inr ⟨b, off, ha, by omega, hx.mono hB⟩
theorem SlP.later {w w' : World} {a : Option Addr} {n : Nat} {zss : List (List Int)} (h : SlP w w.heap.size a n zss) (hb : Below w.heap.size w w') : SlP w' w'.heap.size a n zss := (h.below hb).mono hb.size
def atP (zss : List (List Int)) (i : Nat) : List Int := zss[i]?.getD []
theorem atP_of {zss : List (List Int)} {i : Nat} (h : i < zss.length) : zss[i]? = some (atP zss i) := by simp [atP, List.getElem?_eq_getElem h]
/-- How many numbers there are in all. -/
def lens (zss : List (List Int)) : Nat := (zss.map List.length).sum
theorem lens_take_succ {zss : List (List Int)} {j : Nat} (h : j < zss.length) : lens (zss.take (j + 1)) = lens (zss.take j) + (atP zss j).length := by
  rw [List.take_add_one, atP_of h]; simp [lens]
theorem lens_take_le (zss : List (List Int)) (j : Nat) : lens (zss.take j) ≤ lens zss := by
  have e : lens zss = lens (zss.take j) + lens (zss.drop j) := by
    rw [lens, lens, lens, ← List.sum_append, ← List.map_append, List.take_append_drop]
  omega
theorem lens_mem {zss : List (List Int)} {zs : List Int} (h : zs ∈ zss) : zs.length ≤ lens zss := by
  obtain ⟨i, hi, rfl⟩ := List.getElem_of_mem h
  have h1 := lens_take_succ hi
  have h2 := lens_take_le zss (i + 1)
  have e : atP zss i = zss[i] := by simp [atP, hi]
  rw [e] at h1
  omega
/-- A row in block b of n rows of the call's own: row i lies at the head of block g i; all of them apart. -/
structure OwnP (w : World) (base b n : Nat) (zss : List (List Int)) (g : Nat → Nat) : Prop where
  len : zss.length = n
  cell : ∀ i zs, zss[i]? = some zs → ∃ cap, w.cell? ⟨b, i, none⟩ = some (.slice (some ⟨g i, 0, none⟩) zs.length cap) ∧ zs.length ≤ cap
  low : ∀ i, i < n → base ≤ g i
  lt : ∀ i, i < n → g i < w.heap.size
  ne : ∀ i, i < n → g i ≠ b
  nums : ∀ i zs, zss[i]? = some zs → NumsAt w (g i) 0 zs
  room : ∀ i zs, zss[i]? = some zs → Room w (g i) zs.length
  inj : ∀ i j, i < n → j < n → g i = g j → i = j
theorem OwnP.at {w : World} {base b n : Nat} {zss : List (List Int)} {g : Nat → Nat} (h : OwnP w base b n zss g) (B : Nat) (hB : w.heap.size ≤ B) : PlsAt w B b 0 zss := fun i zs e => by
  obtain ⟨cap, hc, hcp⟩ := h.cell i zs e
  have hi : i < n := by have := (List.getElem?_eq_some_iff.1 e).1; have := h.len; omega
  exact ⟨_, cap, by rw [Nat.zero_add]; exact hc, ⟨rfl, .inr ⟨g i, 0, rfl, by have := h.lt i hi; omega, h.nums i zs e⟩⟩, hcp⟩
theorem OwnP.sl {w : World} {base b n : Nat} {zss : List (List Int)} {g : Nat → Nat} (h : OwnP w base b n zss g) (hb : b < w.heap.size) : SlP w w.heap.size (some ⟨b, 0, none⟩) n zss :=
  ⟨h.len, .inr ⟨b, 0, rfl, hb, h.at _ (Nat.le_refl _)⟩⟩
theorem NumsAt.of_block {w w' : World} {b off : Nat} {zs : List Int} (h : NumsAt w b off zs) (e : w'.heap[b]? = w.heap[b]?) : NumsAt w' b off zs := fun i z hz => (World.cell?_of_block (a := ⟨b, off + i, none⟩) e).trans (h i z hz)
theorem Room.of_block {w w' : World} {b m : Nat} (h : Room w b m) (e : w'.heap[b]? = w.heap[b]?) : Room w' b m := fun j hj => by
  obtain ⟨v, h1, h2⟩ := h j hj
  exact ⟨v, (World.cell?_of_block (a := ⟨b, j, none⟩) e).trans h1, (World.frozen?_of_block (a := ⟨b, j, none⟩) e).trans h2⟩
/-- The same in a world in which its blocks are as they were. -/
theorem OwnP.of_blocks {w w' : World} {base b n : Nat} {zss : List (List Int)} {g : Nat → Nat} (h : OwnP w base b n zss g) (hs : w.heap.size ≤ w'.heap.size) (eb : w'.heap[b]? = w.heap[b]?) (eg : ∀ i, i < n → w'.heap[g i]? = w.heap[g i]?) : OwnP w' base b n zss g := by
  have hi : ∀ i zs, zss[i]? = some zs → i < n := fun i zs e => by have := (List.getElem?_eq_some_iff.1 e).1; have := h.len; omega
  refine ⟨h.len, fun i zs e => ?_, h.low, fun i hi => Nat.lt_of_lt_of_le (h.lt i hi) hs, h.ne, fun i zs e => (h.nums i zs e).of_block (eg i (hi i zs e)), fun i zs e => (h.room i zs e).of_block (eg i (hi i zs e)), h.inj⟩
  obtain ⟨cap, hc, hcp⟩ := h.cell i zs e
  exact ⟨cap, (World.cell?_of_block (a := ⟨b, i, none⟩) eb).trans hc, hcp⟩
theorem OwnP.later {w w' : World} {base b n : Nat} {zss : List (List Int)} {g : Nat → Nat} (h : OwnP w base b n zss g) (hb : Below w.heap.size w w') (hlt : b < w.heap.size) : OwnP w' base b n zss g :=
  h.of_blocks hb.size (hb.block b hlt) (fun i hi => hb.block _ (h.lt i hi))
/-- One row more. -/
theorem OwnP.snoc {w : World} {base b j : Nat} {zss : List (List Int)} {g : Nat → Nat} {zs : List Int} {q cap : Nat} (h : OwnP w base b j zss g) (hc : w.cell? ⟨b, j, none⟩ = some (.slice (some ⟨q, 0, none⟩) zs.length cap)) (hcp : zs.length ≤ cap)
    (hq : base ≤ q) (hl : q < w.heap.size) (hn : q ≠ b) (hx : NumsAt w q 0 zs) (hr : Room w q zs.length) (hf : ∀ i, i < j → g i ≠ q) : OwnP w base b (j + 1) (zss ++ [zs]) (fun i => if i = j then q else g i) := by
  have hlen := h.len
  have split : ∀ i ys, (zss ++ [zs])[i]? = some ys → (i < j ∧ zss[i]? = some ys) ∨ (i = j ∧ ys = zs) := fun i ys e => by
    by_cases hi : i < zss.length
    · rw [List.getElem?_append_left hi] at e
      exact .inl ⟨by omega, e⟩
    · rw [List.getElem?_append_right (by omega)] at e
      have h0 : i - zss.length = 0 := by
        rcases Nat.eq_zero_or_pos (i - zss.length) with h | h
        · exact h
        · rw [List.getElem?_eq_none (by simp; omega)] at e; cases e
      rw [h0] at e
      simp at e
      exact .inr ⟨by omega, e.symm⟩
  refine ⟨by simp [hlen], fun i ys e => ?_, fun i hi => ?_, fun i hi => ?_, fun i hi => ?_, fun i ys e => ?_, fun i ys e => ?_, fun i k hi hk e => ?_⟩
  · rcases split i ys e with ⟨hi, e⟩ | ⟨rfl, rfl⟩
    · rw [if_neg (by omega)]; exact h.cell i ys e
    · rw [if_pos rfl]; exact ⟨cap, hc, hcp⟩
  · by_cases e : i = j
    · rw [if_pos e]; exact hq
    · rw [if_neg e]; exact h.low i (by omega)
  · by_cases e : i = j
    · rw [if_pos e]; exact hl
    · rw [if_neg e]; exact h.lt i (by omega)
  · by_cases e : i = j
    · rw [if_pos e]; exact hn
    · rw [if_neg e]; exact h.ne i (by omega)
  · rcases split i ys e with ⟨hi, e⟩ | ⟨rfl, rfl⟩
    · rw [if_neg (by omega)]; exact h.nums i ys e
    · rw [if_pos rfl]; exact hx
  · rcases split i ys e with ⟨hi, e⟩ | ⟨rfl, rfl⟩
    · rw [if_neg (by omega)]; exact h.room i ys e
    · rw [if_pos rfl]; exact hr
  · by_cases ei : i = j <;> by_cases ek : k = j
    · omega
    · simp only [if_pos ei, if_neg ek] at e; exact absurd e.symm (hf k (by omega))
    · simp only [if_neg ei, if_pos ek] at e; exact absurd e (hf i (by omega))
    · simp only [if_neg ei, if_neg ek] at e; exact h.inj i k (by omega) (by omega) e
theorem OwnP.nil (w : World) (base b : Nat) (g : Nat → Nat) : OwnP w base b 0 [] g :=
  ⟨rfl, fun i zs e => by simp at e, fun i h => by omega, fun i h => by omega, fun i h => by omega, fun i zs e => by simp at e, fun i zs e => by simp at e, fun i j h => by omega⟩
end Go.Proofs.YtooalbdlknheeaaGreat
