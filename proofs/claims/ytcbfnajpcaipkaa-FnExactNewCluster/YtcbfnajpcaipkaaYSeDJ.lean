import Derived.Test.YtcbfnajpcaipkaaRows
import Derived.Test.YtcbfnajpcaipkaaJ0ExactNewCluster
import Derived.Test.YtcbfnajpcaipkaaJ2ExactNewCluster
import Derived.WalkKit
import Derived.WalkSpells
import Derived.WalkLawsBesides
import Derived.Below
import Derived.Lib.QuietBelow
import Derived.BigQuiet
namespace Go.Proofs.Ytcbfnajpcaipkaa.tx
open Go.RowKit
open Go.Sort (grow)
theorem hidOf {p : Prop} (h : p) : Hid p := h
def leftR (l t : Nat) : Int := if t ≤ l then ((l - t : Nat) : Int) else -1
structure KeptP (P : Nat → Prop) (w w' : World) : Prop where
  os : w'.os = w.os
  tape : w'.tape = w.tape
  output : w'.output = w.output
  size : w.heap.size ≤ w'.heap.size
  block : ∀ q, q < w.heap.size → ¬ P q → w'.heap[q]? = w.heap[q]?
theorem KeptP.refl (P : Nat → Prop) (w : World) : KeptP P w w := ⟨rfl, rfl, rfl, Nat.le_refl _, fun _ _ _ => rfl⟩
theorem KeptP.trans {P : Nat → Prop} {a b c : World} (h : KeptP P a b) (k : KeptP P b c) : KeptP P a c :=
  ⟨k.os.trans h.os, k.tape.trans h.tape, k.output.trans h.output, Nat.le_trans h.size k.size, fun q hq hp => (k.block q (Nat.lt_of_lt_of_le hq h.size) hp).trans (h.block q hq hp)⟩
theorem KeptP.mono {P Q : Nat → Prop} {a b : World} (h : KeptP P a b) (hp : ∀ q, P q → Q q) : KeptP Q a b := ⟨h.os, h.tape, h.output, h.size, fun q hq hn => h.block q hq (fun e => hn (hp q e))⟩
theorem KeptP.of_only {P : Nat → Prop} {c : Nat} {a b : World} (h : OnlyBlock c a b) (hc : P c) : KeptP P a b := ⟨h.os, h.tape, h.output, Nat.le_of_eq h.size.symm, fun q _ hn => h.block q (fun e => hn (e ▸ hc))⟩
theorem KeptP.of_below {P : Nat → Prop} {a b : World} (h : Below a.heap.size a b) : KeptP P a b := ⟨h.os, h.tape, h.output, h.size, fun q hq _ => h.block q hq⟩
theorem KeptP.of_set {P : Nat → Prop} (w : World) {c o : Nat} (v : Value) (hc : P c) : KeptP P w (w.setCell ⟨c, o, none⟩ v) := .of_only ((OnlyBlock.refl c w).setCell o v) hc
theorem KeptP.below {P : Nat → Prop} {B : Nat} {a b : World} (h : KeptP P a b) (hp : ∀ q, P q → B ≤ q) (hB : B ≤ a.heap.size) : Below B a b := ⟨h.os, h.tape, h.output, h.size, fun q hq => h.block q (by omega) (fun e => by have := hp q e; omega)⟩
structure SetAt (w : World) (b o : Nat) (s : S5) : Prop where
  c0 : w.cell? ⟨b, o, none⟩ = some (.int .i64 s.region)
  c1 : w.cell? ⟨b, o + 1, none⟩ = some (.int .i64 s.slot)
  c2 : w.cell? ⟨b, o + 2, none⟩ = some (.int .i64 s.value)
  c3 : w.cell? ⟨b, o + 3, none⟩ = some (.bool s.used)
  c4 : w.cell? ⟨b, o + 4, none⟩ = some (.int .i64 s.version)
theorem SetAt.below {w w' : World} {B b o : Nat} {s : S5} (h : SetAt w b o s) (hb : Below B w w') (hB : b < B) : SetAt w' b o s :=
  ⟨by rw [hb.cell hB]; exact h.c0, by rw [hb.cell hB]; exact h.c1, by rw [hb.cell hB]; exact h.c2, by rw [hb.cell hB]; exact h.c3, by rw [hb.cell hB]; exact h.c4⟩
def SetsAt (w : World) (b off : Nat) (xs : List S5) : Prop := ∀ i s, xs[i]? = some s → SetAt w b (off + i * 5) s
theorem SetsAt.below {w w' : World} {B b off : Nat} {xs : List S5} (h : SetsAt w b off xs) (hb : Below B w w') (hB : b < B) : SetsAt w' b off xs := fun i s e => (h i s e).below hb hB
def Sl (w : World) (B : Nat) (a : Option Addr) (n : Nat) (xs : List S5) : Prop := xs.length = n ∧ (n = 0 ∨ ∃ b off, a = some ⟨b, off, none⟩ ∧ b < B ∧ SetsAt w b off xs)
theorem Sl.below {w w' : World} {B : Nat} {a : Option Addr} {n : Nat} {xs : List S5} (h : Sl w B a n xs) (hb : Below B w w') : Sl w' B a n xs := by
  obtain ⟨h1, h2⟩ := h
  refine ⟨h1, ?_⟩
  rcases h2 with h2 | ⟨b, off, ha, hB, hx⟩
  · exact .inl h2
  · exact .inr ⟨b, off, ha, hB, hx.below hb hB⟩
theorem Sl.mono {w : World} {B B' : Nat} {a : Option Addr} {n : Nat} {xs : List S5} (h : Sl w B a n xs) (hB : B ≤ B') : Sl w B' a n xs := by
  obtain ⟨h1, h2⟩ := h
  refine ⟨h1, ?_⟩
  rcases h2 with h2 | ⟨b, off, ha, hb, hx⟩
  · exact .inl h2
  · exact .inr ⟨b, off, ha, by omega, hx⟩
theorem SetsAt.far {w : World} {b off : Nat} {xs : List S5} (h : SetsAt w b off xs) {p : Addr} (hp : p.block ≠ b) (v : Value) : SetsAt (w.setCell p v) b off xs := fun i s e =>
  ⟨by rw [cell_set_far hp]; exact (h i s e).c0, by rw [cell_set_far hp]; exact (h i s e).c1, by rw [cell_set_far hp]; exact (h i s e).c2, by rw [cell_set_far hp]; exact (h i s e).c3, by rw [cell_set_far hp]; exact (h i s e).c4⟩
theorem SetAt.set {w : World} {b o p : Nat} {s : S5} (h : SetAt w b o s) (hp : p < o ∨ o + 5 ≤ p) (v : Value) : SetAt (w.setCell ⟨b, p, none⟩ v) b o s :=
  ⟨by rw [cell_set_other (by omega)]; exact h.c0, by rw [cell_set_other (by omega)]; exact h.c1, by rw [cell_set_other (by omega)]; exact h.c2, by rw [cell_set_other (by omega)]; exact h.c3, by rw [cell_set_other (by omega)]; exact h.c4⟩
theorem info_set : (Try.prog.info? 96).map (fun i => (i.zero, i.size, i.bytes)) = some (some (.agg #[.int .i64 0, .int .i64 0, .int .i64 0, .bool false, .int .i64 0]), 5, 40) := by kernel_rfl
theorem make_sets (n : Nat) (hn : n ≤ 1048576) (w : World) : (Instr.makeSlice 42 (.int .i64 (n : Int)) (.int .i64 (n : Int))).run Try.prog w = .ok (.slice (some ⟨w.heap.size, 0, none⟩) n n) (w.alloc (.cells (madeCells #[.int .i64 0, .int .i64 0, .int .i64 0, .bool false, .int .i64 0] (n * 5)) 96)) := by
  obtain ⟨i, hi, hzz⟩ := Option.map_eq_some_iff.1 info_set
  simp only [Prod.mk.injEq] at hzz
  obtain ⟨hz, hs, hb⟩ := hzz
  have := run_make (P := Try.prog) w 42 96 i _ Try.underlying42 hi hz .i64 .i64 (n : Int) (n : Int) (by omega) (by omega) (by rw [hb]; omega) (by omega)
  rw [hs] at this
  simpa [Value.cells] using this
theorem SetAt.put {w : World} {b o : Nat} {v0 v1 v2 v3 v4 : Value} (s : S5) (h0 : w.cell? ⟨b, o, none⟩ = some v0) (h1 : w.cell? ⟨b, o + 1, none⟩ = some v1) (h2 : w.cell? ⟨b, o + 2, none⟩ = some v2) (h3 : w.cell? ⟨b, o + 3, none⟩ = some v3) (h4 : w.cell? ⟨b, o + 4, none⟩ = some v4) :
    SetAt (((((w.setCell ⟨b, o, none⟩ (.int .i64 s.region)).setCell ⟨b, o + 1, none⟩ (.int .i64 s.slot)).setCell ⟨b, o + 2, none⟩ (.int .i64 s.value)).setCell ⟨b, o + 3, none⟩ (.bool s.used)).setCell ⟨b, o + 4, none⟩ (.int .i64 s.version)) b o s := by
  refine ⟨?_, ?_, ?_, ?_, ?_⟩
  · rw [cell_set_other (by omega), cell_set_other (by omega), cell_set_other (by omega), cell_set_other (by omega)]; exact cell_set_same h0
  · rw [cell_set_other (by omega), cell_set_other (by omega), cell_set_other (by omega)]; exact cell_set_same (by rw [cell_set_other (by omega)]; exact h1)
  · rw [cell_set_other (by omega), cell_set_other (by omega)]; exact cell_set_same (by rw [cell_set_other (by omega), cell_set_other (by omega)]; exact h2)
  · rw [cell_set_other (by omega)]; exact cell_set_same (by rw [cell_set_other (by omega), cell_set_other (by omega), cell_set_other (by omega)]; exact h3)
  · exact cell_set_same (by rw [cell_set_other (by omega), cell_set_other (by omega), cell_set_other (by omega), cell_set_other (by omega)]; exact h4)
theorem SetsAt.put {w : World} {b k : Nat} {xs : List S5} {s : S5} (h : SetsAt w b 0 (xs.take k)) (hs : xs[k]? = some s) {m : Nat} (hr : Room w b m) (hm : k * 5 + 5 ≤ m) :
    SetsAt (((((w.setCell ⟨b, k * 5, none⟩ (.int .i64 s.region)).setCell ⟨b, k * 5 + 1, none⟩ (.int .i64 s.slot)).setCell ⟨b, k * 5 + 2, none⟩ (.int .i64 s.value)).setCell ⟨b, k * 5 + 3, none⟩ (.bool s.used)).setCell ⟨b, k * 5 + 4, none⟩ (.int .i64 s.version)) b 0 (xs.take (k + 1)) := by
  intro i t e
  rw [List.getElem?_take] at e
  split at e
  · rename_i hi
    by_cases hik : i = k
    · subst hik
      rw [hs] at e
      obtain rfl := Option.some.inj e
      obtain ⟨v0, d0, _⟩ := hr (i * 5) (by omega)
      obtain ⟨v1, d1, _⟩ := hr (i * 5 + 1) (by omega)
      obtain ⟨v2, d2, _⟩ := hr (i * 5 + 2) (by omega)
      obtain ⟨v3, d3, _⟩ := hr (i * 5 + 3) (by omega)
      obtain ⟨v4, d4, _⟩ := hr (i * 5 + 4) (by omega)
      simpa using SetAt.put s d0 d1 d2 d3 d4
    · have := h i t (by rw [List.getElem?_take, if_pos (by omega)]; exact e)
      exact ((((this.set (by omega) _).set (by omega) _).set (by omega) _).set (by omega) _).set (by omega) _
  · cases e
theorem SetsAt.of_block {w w' : World} {b off : Nat} {xs : List S5} (h : SetsAt w b off xs) (e : w'.heap[b]? = w.heap[b]?) : SetsAt w' b off xs := fun i s hs => by
  obtain ⟨c0, c1, c2, c3, c4⟩ := h i s hs
  exact ⟨(World.cell?_of_block (a := ⟨b, _, none⟩) e).trans c0, (World.cell?_of_block (a := ⟨b, _, none⟩) e).trans c1, (World.cell?_of_block (a := ⟨b, _, none⟩) e).trans c2, (World.cell?_of_block (a := ⟨b, _, none⟩) e).trans c3, (World.cell?_of_block (a := ⟨b, _, none⟩) e).trans c4⟩
theorem toSetS_none (w : World) (a : Option Addr) (cap : Nat) : Calls Try.prog 67 #[.slice a 0 cap] w fun e w' =>
    e = .returned (.slice (some ⟨w.heap.size, 0, none⟩) 0 0) ∧ Below w.heap.size w w' ∧ w.heap.size < w'.heap.size := by
  have hmk : ∀ w : World, (Instr.makeSlice 42 (.int .i64 0) (.int .i64 0)).run Try.prog w = .ok (.slice (some ⟨w.heap.size, 0, none⟩) 0 0) (w.alloc (.cells (madeCells #[.int .i64 0, .int .i64 0, .int .i64 0, .bool false, .int .i64 0] 0) 96)) := fun w => by simpa using make_sets 0 (by omega) w
  go_enter Try.func67, Try.ntmps67
  go_wp2
  go_loopw [4] (fun i wr => i = .int .i64 0 ∧ Below w.heap.size w wr ∧ w.heap.size < wr.heap.size) (fun _ _ => 0)
  case atStart => exact ⟨rfl, (Below.refl _ _).alloc (Nat.le_refl _) _, by simp⟩
  case round =>
    obtain ⟨rfl, hbl, hsz⟩ := hrel
    go_wp2
    go_ret
    exact ⟨rfl, hbl, hsz⟩
set_option maxHeartbeats 1000000 in
theorem toSetS_someR (w : World) (b off n cap : Nat) (xs : List S5) (hx : xs.length = n) (hn : n ≤ 1048576) (hb : b < w.heap.size) (hs : SetsAt w b off xs) : Calls Try.prog 67 #[.slice (some ⟨b, off, none⟩) n cap] w fun e w' =>
    e = .returned (.slice (some ⟨w.heap.size, 0, none⟩) n n) ∧ Below w.heap.size w w' ∧ w.heap.size < w'.heap.size ∧ SetsAt w' w.heap.size 0 xs ∧ Room w' w.heap.size (n * 5) := by
  have hmk := make_sets n hn
  go_enter Try.func67, Try.ntmps67
  go_wp2
  go_loopw [4] (fun i wr => ∃ k : Nat, k ≤ n ∧ i = .int .i64 k ∧ Below w.heap.size w wr ∧ w.heap.size < wr.heap.size ∧ Room wr w.heap.size (n * 5) ∧ SetsAt wr w.heap.size 0 (xs.take k))
     (fun i _ => n - (intOf i).toNat)
  case atStart => exact ⟨0, Nat.zero_le _, rfl, (Below.refl _ _).alloc (Nat.le_refl _) _, by simp, room_made _ _ _ _, fun i s e => by simp at e⟩
  case round =>
    obtain ⟨k, hk, rfl, hbl, hsz, hro, hdo⟩ := hrel
    by_cases hlt : k < n
    · have hs' := hs.below hbl hb
      obtain ⟨s, hsk⟩ : ∃ s, xs[k]? = some s := ⟨xs[k]'(by omega), by simp⟩
      obtain ⟨c0, c1, c2, c3, c4⟩ := hs' k s hsk
      clear hs' hmk
      have K : Hid (Room wr w.heap.size (n * 5) ∧ SetsAt wr w.heap.size 0 (xs.take k) ∧ xs[k]? = some s ∧ Below w.heap.size w wr) := ⟨hro, hdo, hsk, hbl⟩
      clear hro hdo hsk hbl
      go_wp2_with fail
      refine (toSet_any _ s).mono ?_
      rintro e w1 ⟨rfl, b1⟩
      obtain ⟨hro, hdo, hsk, hbl⟩ := K.out
      have hro1 := hro.below b1 hsz
      have hdo1 := hdo.below b1 hsz
      obtain ⟨v0, d0, f0⟩ := hro1 (k * 5) (by omega)
      obtain ⟨v1, d1, f1⟩ := hro1 (k * 5 + 1) (by omega)
      obtain ⟨v2, d2, f2⟩ := hro1 (k * 5 + 2) (by omega)
      obtain ⟨v3, d3, f3⟩ := hro1 (k * 5 + 3) (by omega)
      obtain ⟨v4, d4, f4⟩ := hro1 (k * 5 + 4) (by omega)
      clear hro hdo hsk hbl
      have K2 : Hid (Room w1 w.heap.size (n * 5) ∧ SetsAt w1 w.heap.size 0 (xs.take k)) := ⟨hro1, hdo1⟩
      clear hro1 hdo1
      go_wp2
      obtain ⟨hro, hdo, hsk, hbl⟩ := K.out
      obtain ⟨hro1, hdo1⟩ := K2.out
      have hbl1 := hbl.trans (b1.mono (Nat.le_of_lt hsz))
      refine ⟨⟨k + 1, by omega, by simp, ((((hbl1.setCell (p := ⟨w.heap.size, k * 5, none⟩) (Nat.le_refl _) _).setCell (p := ⟨w.heap.size, k * 5 + 1, none⟩) (Nat.le_refl _) _).setCell (p := ⟨w.heap.size, k * 5 + 2, none⟩) (Nat.le_refl _) _).setCell (p := ⟨w.heap.size, k * 5 + 3, none⟩) (Nat.le_refl _) _).setCell (p := ⟨w.heap.size, k * 5 + 4, none⟩) (Nat.le_refl _) _,
        by have := b1.size; simp [World.setCell]; omega, ((((hro1.set _).set _).set _).set _).set _, hdo1.put hsk hro1 (by omega)⟩, by simp [intOf]; omega⟩
    · have : k = n := by omega
      subst this
      have hd : decide (k < k) = false := by simp
      go_wp2
      go_ret
      refine ⟨rfl, hbl, hsz, ?_, hro⟩
      rw [← hx, List.take_length] at hdo
      exact hdo
theorem toSetS_anyR (w : World) (a : Option Addr) (n cap : Nat) (xs : List S5) (hn : n ≤ 1048576) (hs : Sl w w.heap.size a n xs) : Calls Try.prog 67 #[.slice a n cap] w fun e w' =>
    e = .returned (.slice (some ⟨w.heap.size, 0, none⟩) n n) ∧ Below w.heap.size w w' ∧ w.heap.size < w'.heap.size ∧ SetsAt w' w.heap.size 0 xs ∧ Room w' w.heap.size (n * 5) := by
  obtain ⟨h1, h2⟩ := hs
  rcases h2 with rfl | ⟨b, off, rfl, hb, hx⟩
  · refine (toSetS_none w a cap).mono ?_
    rintro e w' ⟨rfl, h, h'⟩
    exact ⟨rfl, h, h', (fun i s e => by rw [List.eq_nil_of_length_eq_zero h1] at e; simp at e), fun j hj => by omega⟩
  · exact toSetS_someR w b off n cap xs h1 hn hb hx
theorem SetAt.regrown {w : World} {b o : Nat} {s : S5} (h : SetAt w b o s) (d : Nat) (os : Array Obj) : SetAt (grow (redrawn w d) os) b o s :=
  ⟨cell_regrown h.c0 d os, cell_regrown h.c1 d os, cell_regrown h.c2 d os, cell_regrown h.c3 d os, cell_regrown h.c4 d os⟩
set_option maxHeartbeats 1000000 in
theorem eqSet_same (w : World) (s : S5) : Calls Try.prog 87 #[.agg #[.int .i64 s.region, .int .i64 s.slot, .int .i64 s.value, .bool s.used, .int .i64 s.version], .agg #[.int .i64 s.region, .int .i64 s.slot, .int .i64 s.value, .bool s.used, .int .i64 s.version]] w fun e w' =>
    e = .returned (.bool true) ∧ Below w.heap.size w w' := by
  obtain ⟨r, l, v, u, x⟩ := s
  go_enter Try.func87, Try.ntmps87
  go_wp2
  go_ret
  exact ⟨rfl, ((Below.refl _ _).alloc (Nat.le_refl _) _).alloc (by simp) _⟩
set_option maxHeartbeats 1000000 in
theorem eqSetS_some (w : World) (b off cap b' off' cap' n : Nat) (xs : List S5) (hx : xs.length = n) (hn : n ≤ maxLen) (h1 : SetsAt w b off xs) (hb : b < w.heap.size) (h2 : SetsAt w b' off' xs) (hb' : b' < w.heap.size) :
    Calls Try.prog 56 #[.slice (some ⟨b, off, none⟩) n cap, .slice (some ⟨b', off', none⟩) n cap'] w fun e w' => e = .returned (.bool true) ∧ Below w.heap.size w w' := by
  unfold maxLen at hn
  go_enter Try.func56, Try.ntmps56
  go_wp2
  go_loopw [5] (fun i wr => ∃ k : Nat, k ≤ n ∧ i = .int .i64 k ∧ Below w.heap.size w wr) (fun i _ => n - (intOf i).toNat)
  case atStart => exact ⟨0, Nat.zero_le _, rfl, Below.refl _ _⟩
  case round =>
    obtain ⟨k, hk, rfl, hbl⟩ := hrel
    by_cases hlt : k < n
    · obtain ⟨s, hsk⟩ : ∃ s, xs[k]? = some s := ⟨xs[k]'(by omega), by simp⟩
      have t1 := (((h1 k s hsk).below hbl hb).regrown)
      have t2 := (((h2 k s hsk).below hbl hb').regrown)
      have c0 := fun d os => (t1 d os).c0
      have c1 := fun d os => (t1 d os).c1
      have c2 := fun d os => (t1 d os).c2
      have c3 := fun d os => (t1 d os).c3
      have c4 := fun d os => (t1 d os).c4
      have e0 := fun d os => (t2 d os).c0
      have e1 := fun d os => (t2 d os).c1
      have e2 := fun d os => (t2 d os).c2
      have e3 := fun d os => (t2 d os).c3
      have e4 := fun d os => (t2 d os).c4
      have cQ : ∀ d os, Calls Try.prog 87 #[.agg #[.int .i64 s.region, .int .i64 s.slot, .int .i64 s.value, .bool s.used, .int .i64 s.version], .agg #[.int .i64 s.region, .int .i64 s.slot, .int .i64 s.value, .bool s.used, .int .i64 s.version]] (grow (redrawn wr d) os) fun e w'' => e = .returned (.bool true) ∧ ∃ p : Regrown, w'' = grow (redrawn wr p.d) p.os := fun d os => Calls.regrown_of (eqSet_same _ s)
      have K : Hid (Below w.heap.size w wr) := hbl
      clear t1 t2 hbl hsk h1 h2
      go_wp2_with fail
      refine wp_region_quiet_below (by kernel_rfl) (by kernel_rfl) ?_
      repeat (quiet_step (exact cQ _ _))
      refine wpQuiet_nil ?_
      intro _ hw'
      obtain ⟨⟨dq, osq⟩, hw''⟩ := hw'
      subst hw''
      have bq := below_regrown wr dq osq
      go_wp2
      exact ⟨⟨k + 1, by omega, by simp, K.out.trans (bq.mono K.out.size)⟩, by simp [intOf]; omega⟩
    · have : k = n := by omega
      subst this
      have hd : decide (k < k) = false := by simp
      go_wp2
      go_ret
      exact ⟨rfl, hbl⟩
theorem eqSetS_none (w : World) (a a' : Option Addr) (cap cap' : Nat) : Calls Try.prog 56 #[.slice a 0 cap, .slice a' 0 cap'] w fun e w' => e = .returned (.bool true) ∧ Below w.heap.size w w' := by
  go_enter Try.func56, Try.ntmps56
  go_wp2
  go_loopw [5] (fun i wr => i = .int .i64 0 ∧ Below w.heap.size w wr) (fun _ _ => 0)
  case atStart => exact ⟨rfl, Below.refl _ _⟩
  case round =>
    obtain ⟨rfl, hbl⟩ := hrel
    go_wp2
    go_ret
    exact ⟨rfl, hbl⟩
theorem eqSetS_any (w : World) (a a' : Option Addr) (n cap cap' : Nat) (xs : List S5) (hn : n ≤ maxLen) (h1 : Sl w w.heap.size a n xs) (h2 : Sl w w.heap.size a' n xs) :
    Calls Try.prog 56 #[.slice a n cap, .slice a' n cap'] w fun e w' => e = .returned (.bool true) ∧ Below w.heap.size w w' := by
  obtain ⟨hx, h1⟩ := h1
  obtain ⟨_, h2⟩ := h2
  rcases h1 with rfl | ⟨b, off, rfl, hb, h1⟩
  · exact eqSetS_none w a a' cap cap'
  · rcases h2 with rfl | ⟨b', off', rfl, hb', h2⟩
    · exact eqSetS_none w _ a' cap cap'
    · exact eqSetS_some w b off cap b' off' cap' n xs hx hn h1 hb h2 hb'
def mkSet (k : Int) (j : Nat) : S5 := ⟨k + 5 * (j : Int), k + 5 * (j : Int) + 1, k + 5 * (j : Int) + 1 + 1, (k + 5 * (j : Int) + 1 + 1 + 1) % 3 == 0, k + 5 * (j : Int) + 1 + 1 + 1 + 1⟩
def mkSets (k : Int) (n : Nat) : List S5 := (List.range n).map (mkSet k)
theorem mkSets_at {k : Int} {n j : Nat} (h : j < n) : (mkSets k n)[j]? = some (mkSet k j) := by simp [mkSets, h]
theorem mkSets_len (k : Int) (n : Nat) : (mkSets k n).length = n := by simp [mkSets]
set_option maxHeartbeats 4000000 in
theorem markSetS_k (w : World) (b n cap : Nat) (k : Int) (hn : n ≤ 1048576) (hk : 0 ≤ k) (hk' : k ≤ 1000000000) (hr : Room w b (n * 5)) :
    Calls Try.prog 58 #[.slice (some ⟨b, 0, none⟩) n cap, .int .i64 k] w fun e w' => e = .returned (.int .i64 (k + 5 * (n : Int))) ∧ OnlyBlock b w w' ∧ SetsAt w' b 0 (mkSets k n) ∧ Room w' b (n * 5) := by
  go_enter Try.func58, Try.ntmps58
  go_wp2
  go_loopw [1, 5] (fun v1 v5 wr => ∃ j : Nat, j ≤ n ∧ v5 = .int .i64 j ∧ v1 = .int .i64 (k + 5 * (j : Int)) ∧ OnlyBlock b w wr ∧ Room wr b (n * 5) ∧ SetsAt wr b 0 ((mkSets k n).take j)) (fun _ v5 _ => n - (intOf v5).toNat)
  case atStart => exact ⟨0, Nat.zero_le _, rfl, by simp, OnlyBlock.refl _ _, hr, fun i s e => by simp at e⟩
  case round =>
    obtain ⟨j, hj, rfl, rfl, hob, hro, hse⟩ := hrel
    by_cases hlt : j < n
    · obtain ⟨v0, d0, f0⟩ := hro (j * 5) (by omega)
      obtain ⟨v1, d1, f1⟩ := hro (j * 5 + 1) (by omega)
      obtain ⟨v2, d2, f2⟩ := hro (j * 5 + 2) (by omega)
      obtain ⟨v3, d3, f3⟩ := hro (j * 5 + 3) (by omega)
      obtain ⟨v4, d4, f4⟩ := hro (j * 5 + 4) (by omega)
      have K : Hid (OnlyBlock b w wr ∧ Room wr b (n * 5) ∧ SetsAt wr b 0 ((mkSets k n).take j)) := ⟨hob, hro, hse⟩
      clear hob hro hse hr
      go_wp2
      obtain ⟨hob, hro, hse⟩ := K.out
      refine ⟨⟨j + 1, by omega, by simp, by congr 1; push_cast; omega, ((((hob.setCell _ _).setCell _ _).setCell _ _).setCell _ _).setCell _ _, ((((hro.set _).set _).set _).set _).set _, hse.put (s := mkSet k j) (mkSets_at hlt) hro (by omega)⟩, by simp [intOf]; omega⟩
    · have : j = n := by omega
      subst this
      have hd : decide ((j : Int) < (j : Int)) = false := by simp
      rw [List.take_of_length_le (by rw [mkSets_len]; omega)] at hse
      have K : Hid (OnlyBlock b w wr ∧ SetsAt wr b 0 (mkSets k j) ∧ Room wr b (j * 5)) := ⟨hob, hse, hro⟩
      clear hob hro hse hr
      go_wp2
      go_ret
      exact ⟨rfl, K.out.1, K.out.2.1, K.out.2.2⟩
set_option maxHeartbeats 1000000 in
theorem markSetS_nil (w : World) (a : Option Addr) (cap : Nat) (k : Int) : Calls Try.prog 58 #[.slice a 0 cap, .int .i64 k] w fun e w' => e = .returned (.int .i64 k) ∧ w' = w := by
  go_enter Try.func58, Try.ntmps58
  go_wp2
  go_loop [1, 5] (fun v1 v5 => v1 = .int .i64 k ∧ v5 = .int .i64 0) (fun _ _ => 0)
  case atStart => exact ⟨rfl, rfl⟩
  case round =>
    obtain ⟨rfl, rfl⟩ := hrel
    go_wp2
    go_ret
    exact ⟨rfl, rfl⟩
set_option maxHeartbeats 4000000 in
theorem heldSetS_k (w : World) (a : Option Addr) (n cap : Nat) (k : Int) (hn : n ≤ 1048576) (hk : 0 ≤ k) (hk' : k ≤ 1000000000) (hs : Sl w w.heap.size a n (mkSets k n)) :
    Calls Try.prog 60 #[.slice a n cap, .int .i64 k] w fun e w' => e = .returned (.int .i64 (k + 5 * (n : Int))) ∧ w' = w := by
  obtain ⟨_, hs⟩ := hs
  go_enter Try.func60, Try.ntmps60
  go_wp2
  go_loop [1, 5] (fun v1 v5 => ∃ j : Nat, j ≤ n ∧ v5 = .int .i64 j ∧ v1 = .int .i64 (k + 5 * (j : Int))) (fun _ v5 => n - (intOf v5).toNat)
  case atStart => exact ⟨0, Nat.zero_le _, rfl, by simp⟩
  case round =>
    obtain ⟨j, hj, rfl, rfl⟩ := hrel
    by_cases hlt : j < n
    · rcases hs with hs | ⟨b, off, rfl, hb, h1⟩
      · omega
      · obtain ⟨c0, c1, c2, c3, c4⟩ := h1 j (mkSet k j) (mkSets_at hlt)
        simp only [mkSet] at c0 c1 c2 c3 c4
        clear h1
        go_wp2
        exact ⟨⟨j + 1, by omega, by simp, by congr 1; push_cast; omega⟩, by simp [intOf]; omega⟩
    · have : j = n := by omega
      subst this
      have hd : decide ((j : Int) < (j : Int)) = false := by simp
      clear hs
      go_wp2
      go_ret
      exact ⟨rfl, rfl⟩
end Go.Proofs.Ytcbfnajpcaipkaa.tx
