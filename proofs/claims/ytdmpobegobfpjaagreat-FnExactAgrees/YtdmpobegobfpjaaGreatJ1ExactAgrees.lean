/- Recs; MacD; IdxR; SeS1; InsS; YNoD; YTxD; YTxB; YTxS: joined. -/
import Derived.Test.YtdmpobegobfpjaaGreatRows
import Derived.Test.YtdmpobegobfpjaaGreatJ0ExactAgrees
import Derived.WalkKit
import Derived.WalkSpells
import Derived.WalkLawsBesides
import Derived.Below
import Derived.Lib.QuietBelow
import Derived.BigQuiet
import Derived.Laws.StructEq
import Derived.Deep.CutRange
import Derived.LaidEql
import Derived.RowKitTokens
import Derived.Deep.Upon
import Derived.Deep.RegionWith
namespace Go.Proofs.YtdmpobegobfpjaaGreat
open Go.RowKit
open Go.Sort (grow)
structure SetAt (w : World) (b o : Nat) (s : S5) : Prop where
  c0 : w.cell? ⟨b, o, none⟩ = some (.int .i64 s.region)
  c1 : w.cell? ⟨b, o + 1, none⟩ = some (.int .i64 s.slot)
  c2 : w.cell? ⟨b, o + 2, none⟩ = some (.int .i64 s.value)
  c3 : w.cell? ⟨b, o + 3, none⟩ = some (.bool s.used)
  c4 : w.cell? ⟨b, o + 4, none⟩ = some (.int .i64 s.version)
theorem SetAt.below {w w' : World} {B b o : Nat} {s : S5} (h : SetAt w b o s) (hb : Below B w w') (hB : b < B) : SetAt w' b o s :=
  ⟨by rw [hb.cell hB]; exact h.c0, by rw [hb.cell hB]; exact h.c1, by rw [hb.cell hB]; exact h.c2, by rw [hb.cell hB]; exact h.c3, by rw [hb.cell hB]; exact h.c4⟩
def SetsAt (w : World) (b off : Nat) (xs : List S5) : Prop := ∀ i s, xs[i]? = some s → SetAt w b (off + i * 5) s
theorem SetsAt.below {w w' : World} {B b off : Nat} {xs : List S5} (h : SetsAt w b off xs) (hb : Below B w w') (hB : b < B) : SetsAt w' b off xs := fun i s e => (h i s e).below hb hB
def Sl (w : World) (B : Nat) (a : Option Addr) (n : Nat) (xs : List S5) : Prop := xs.length = n ∧ (n = 0 ∨ ∃ b off, a = some ⟨b, off, none⟩ ∧ b < B ∧ SetsAt w b off xs)
theorem Sl.below {w w' : World} {B : Nat} {a : Option Addr} {n : Nat} {xs : List S5} (h : Sl w B a n xs) (hb : Below B w w') : Sl w' B a n xs := by
  obtain ⟨h1, h2⟩ := h
  refine ⟨h1, ?_⟩
  rcases h2 with h2 | ⟨b, off, ha, hB, hx⟩
  · exact .inl h2
  · exact .inr ⟨b, off, ha, hB, hx.below hb hB⟩
theorem Sl.mono {w : World} {B B' : Nat} {a : Option Addr} {n : Nat} {xs : List S5} (h : Sl w B a n xs) (hB : B ≤ B') : Sl w B' a n xs := by
  obtain ⟨h1, h2⟩ := h
  refine ⟨h1, ?_⟩
  rcases h2 with h2 | ⟨b, off, ha, hb, hx⟩
  · exact .inl h2
  · exact .inr ⟨b, off, ha, by omega, hx⟩
theorem SetsAt.far {w : World} {b off : Nat} {xs : List S5} (h : SetsAt w b off xs) {p : Addr} (hp : p.block ≠ b) (v : Value) : SetsAt (w.setCell p v) b off xs := fun i s e =>
  ⟨by rw [cell_set_far hp]; exact (h i s e).c0, by rw [cell_set_far hp]; exact (h i s e).c1, by rw [cell_set_far hp]; exact (h i s e).c2, by rw [cell_set_far hp]; exact (h i s e).c3, by rw [cell_set_far hp]; exact (h i s e).c4⟩
theorem SetAt.set {w : World} {b o p : Nat} {s : S5} (h : SetAt w b o s) (hp : p < o ∨ o + 5 ≤ p) (v : Value) : SetAt (w.setCell ⟨b, p, none⟩ v) b o s :=
  ⟨by rw [cell_set_other (by omega)]; exact h.c0, by rw [cell_set_other (by omega)]; exact h.c1, by rw [cell_set_other (by omega)]; exact h.c2, by rw [cell_set_other (by omega)]; exact h.c3, by rw [cell_set_other (by omega)]; exact h.c4⟩
theorem info_set : (Tryz.prog.info? 106).map (fun i => (i.zero, i.size, i.bytes)) = some (some (.agg #[.int .i64 0, .int .i64 0, .int .i64 0, .bool false, .int .i64 0]), 5, 40) := by kernel_rfl
theorem make_sets (n : Nat) (hn : n ≤ 1048576) (w : World) : (Instr.makeSlice 53 (.int .i64 (n : Int)) (.int .i64 (n : Int))).run Tryz.prog w = .ok (.slice (some ⟨w.heap.size, 0, none⟩) n n) (w.alloc (.cells (madeCells #[.int .i64 0, .int .i64 0, .int .i64 0, .bool false, .int .i64 0] (n * 5)) 106)) := by
  obtain ⟨i, hi, hzz⟩ := Option.map_eq_some_iff.1 info_set
  simp only [Prod.mk.injEq] at hzz
  obtain ⟨hz, hs, hb⟩ := hzz
  have := run_make (P := Tryz.prog) w 53 106 i _ Tryz.underlying53 hi hz .i64 .i64 (n : Int) (n : Int) (by omega) (by omega) (by rw [hb]; omega) (by omega)
  rw [hs] at this
  simpa [Value.cells] using this
theorem SetAt.put {w : World} {b o : Nat} {v0 v1 v2 v3 v4 : Value} (s : S5) (h0 : w.cell? ⟨b, o, none⟩ = some v0) (h1 : w.cell? ⟨b, o + 1, none⟩ = some v1) (h2 : w.cell? ⟨b, o + 2, none⟩ = some v2) (h3 : w.cell? ⟨b, o + 3, none⟩ = some v3) (h4 : w.cell? ⟨b, o + 4, none⟩ = some v4) :
    SetAt (((((w.setCell ⟨b, o, none⟩ (.int .i64 s.region)).setCell ⟨b, o + 1, none⟩ (.int .i64 s.slot)).setCell ⟨b, o + 2, none⟩ (.int .i64 s.value)).setCell ⟨b, o + 3, none⟩ (.bool s.used)).setCell ⟨b, o + 4, none⟩ (.int .i64 s.version)) b o s := by
  refine ⟨?_, ?_, ?_, ?_, ?_⟩
  · rw [cell_set_other (by omega), cell_set_other (by omega), cell_set_other (by omega), cell_set_other (by omega)]; exact cell_set_same h0
  · rw [cell_set_other (by omega), cell_set_other (by omega), cell_set_other (by omega)]; exact cell_set_same (by rw [cell_set_other (by omega)]; exact h1)
  · rw [cell_set_other (by omega), cell_set_other (by omega)]; exact cell_set_same (by rw [cell_set_other (by omega), cell_set_other (by omega)]; exact h2)
  · rw [cell_set_other (by omega)]; exact cell_set_same (by rw [cell_set_other (by omega), cell_set_other (by omega), cell_set_other (by omega)]; exact h3)
  · exact cell_set_same (by rw [cell_set_other (by omega), cell_set_other (by omega), cell_set_other (by omega), cell_set_other (by omega)]; exact h4)
theorem SetsAt.put {w : World} {b k : Nat} {xs : List S5} {s : S5} (h : SetsAt w b 0 (xs.take k)) (hs : xs[k]? = some s) {m : Nat} (hr : Room w b m) (hm : k * 5 + 5 ≤ m) :
    SetsAt (((((w.setCell ⟨b, k * 5, none⟩ (.int .i64 s.region)).setCell ⟨b, k * 5 + 1, none⟩ (.int .i64 s.slot)).setCell ⟨b, k * 5 + 2, none⟩ (.int .i64 s.value)).setCell ⟨b, k * 5 + 3, none⟩ (.bool s.used)).setCell ⟨b, k * 5 + 4, none⟩ (.int .i64 s.version)) b 0 (xs.take (k + 1)) := by
  intro i t e
  rw [List.getElem?_take] at e
  split at e
  · rename_i hi
    by_cases hik : i = k
    · subst hik
      rw [hs] at e
      obtain rfl := Option.some.inj e
      obtain ⟨v0, d0, _⟩ := hr (i * 5) (by omega)
      obtain ⟨v1, d1, _⟩ := hr (i * 5 + 1) (by omega)
      obtain ⟨v2, d2, _⟩ := hr (i * 5 + 2) (by omega)
      obtain ⟨v3, d3, _⟩ := hr (i * 5 + 3) (by omega)
      obtain ⟨v4, d4, _⟩ := hr (i * 5 + 4) (by omega)
      simpa using SetAt.put s d0 d1 d2 d3 d4
    · have := h i t (by rw [List.getElem?_take, if_pos (by omega)]; exact e)
      exact ((((this.set (by omega) _).set (by omega) _).set (by omega) _).set (by omega) _).set (by omega) _
  · cases e
theorem toSetS_none (w : World) (a : Option Addr) (cap : Nat) : Calls Tryz.prog 109 #[.slice a 0 cap] w fun e w' =>
    e = .returned (.slice (some ⟨w.heap.size, 0, none⟩) 0 0) ∧ Below w.heap.size w w' ∧ w.heap.size < w'.heap.size := by
  have hmk : ∀ w : World, (Instr.makeSlice 53 (.int .i64 0) (.int .i64 0)).run Tryz.prog w = .ok (.slice (some ⟨w.heap.size, 0, none⟩) 0 0) (w.alloc (.cells (madeCells #[.int .i64 0, .int .i64 0, .int .i64 0, .bool false, .int .i64 0] 0) 106)) := fun w => by simpa using make_sets 0 (by omega) w
  go_enter Tryz.func109, Tryz.ntmps109
  go_wp2
  go_loopw [4] (fun i wr => i = .int .i64 0 ∧ Below w.heap.size w wr ∧ w.heap.size < wr.heap.size) (fun _ _ => 0)
  case atStart => exact ⟨rfl, (Below.refl _ _).alloc (Nat.le_refl _) _, by simp⟩
  case round =>
    obtain ⟨rfl, hbl, hsz⟩ := hrel
    go_wp2
    go_ret
    exact ⟨rfl, hbl, hsz⟩
end Go.Proofs.YtdmpobegobfpjaaGreat
namespace Go.Proofs.YtdmpobegobfpjaaGreat
open Go.RowKit
structure R4 where
  kind : Int
  tx : Int
  region : Int
  sets : List S5
structure K2 where
  region : Int
  cells : List C2
structure M4 where
  alive : Bool
  copies : List K2
  log : List R4
  cleared : List Int
structure RecAt (w : World) (B b o : Nat) (r : R4) : Prop where
  c0 : w.cell? ⟨b, o, none⟩ = some (.int .i64 r.kind)
  c1 : w.cell? ⟨b, o + 1, none⟩ = some (.int .i64 r.tx)
  c2 : w.cell? ⟨b, o + 2, none⟩ = some (.int .i64 r.region)
  c3 : ∃ a cap, w.cell? ⟨b, o + 3, none⟩ = some (.slice a r.sets.length cap) ∧ Sl w B a r.sets.length r.sets ∧ r.sets.length ≤ cap
theorem RecAt.below {w w' : World} {B b o : Nat} {r : R4} (h : RecAt w B b o r) (hb : Below B w w') (hB : b < B) : RecAt w' B b o r :=
  ⟨(hb.cell (p := ⟨b, o, none⟩) hB).trans h.c0, (hb.cell (p := ⟨b, o + 1, none⟩) hB).trans h.c1, (hb.cell (p := ⟨b, o + 2, none⟩) hB).trans h.c2, by
    obtain ⟨a, cap, h1, h2, h3⟩ := h.c3
    exact ⟨a, cap, (hb.cell (p := ⟨b, o + 3, none⟩) hB).trans h1, h2.below hb, h3⟩⟩
theorem RecAt.mono {w : World} {B B' b o : Nat} {r : R4} (h : RecAt w B b o r) (hB : B ≤ B') : RecAt w B' b o r :=
  ⟨h.c0, h.c1, h.c2, by
    obtain ⟨a, cap, h1, h2, h3⟩ := h.c3
    exact ⟨a, cap, h1, h2.mono hB, h3⟩⟩
def RecsAt (w : World) (B b off : Nat) (rs : List R4) : Prop := ∀ i r, rs[i]? = some r → RecAt w B b (off + i * 4) r
def SlR (w : World) (B : Nat) (a : Option Addr) (n : Nat) (rs : List R4) : Prop := rs.length = n ∧ (n = 0 ∨ ∃ b off, a = some ⟨b, off, none⟩ ∧ b < B ∧ RecsAt w B b off rs)
theorem SlR.later {w w' : World} {a : Option Addr} {n : Nat} {rs : List R4} (h : SlR w w.heap.size a n rs) (hb : Below w.heap.size w w') : SlR w' w'.heap.size a n rs := by
  obtain ⟨h1, h2⟩ := h
  refine ⟨h1, h2.imp id ?_⟩
  rintro ⟨b, off, ha, hB, hx⟩
  exact ⟨b, off, ha, Nat.lt_of_lt_of_le hB hb.size, fun i r e => ((hx i r e).below hb hB).mono hb.size⟩
structure CopAt (w : World) (B b o : Nat) (k : K2) : Prop where
  c0 : w.cell? ⟨b, o, none⟩ = some (.int .i64 k.region)
  c1 : ∃ a cap, w.cell? ⟨b, o + 1, none⟩ = some (.slice a k.cells.length cap) ∧ SlC w B a k.cells.length k.cells ∧ k.cells.length ≤ cap
theorem CopAt.below {w w' : World} {B b o : Nat} {k : K2} (h : CopAt w B b o k) (hb : Below B w w') (hB : b < B) : CopAt w' B b o k :=
  ⟨(hb.cell (p := ⟨b, o, none⟩) hB).trans h.c0, by
    obtain ⟨a, cap, h1, h2, h3⟩ := h.c1
    exact ⟨a, cap, (hb.cell (p := ⟨b, o + 1, none⟩) hB).trans h1, h2.below hb, h3⟩⟩
theorem CopAt.mono {w : World} {B B' b o : Nat} {k : K2} (h : CopAt w B b o k) (hB : B ≤ B') : CopAt w B' b o k :=
  ⟨h.c0, by
    obtain ⟨a, cap, h1, h2, h3⟩ := h.c1
    exact ⟨a, cap, h1, h2.mono hB, h3⟩⟩
def CopsAt (w : World) (B b off : Nat) (ks : List K2) : Prop := ∀ i k, ks[i]? = some k → CopAt w B b (off + i * 2) k
def SlK (w : World) (B : Nat) (a : Option Addr) (n : Nat) (ks : List K2) : Prop := ks.length = n ∧ (n = 0 ∨ ∃ b off, a = some ⟨b, off, none⟩ ∧ b < B ∧ CopsAt w B b off ks)
theorem SlK.later {w w' : World} {a : Option Addr} {n : Nat} {ks : List K2} (h : SlK w w.heap.size a n ks) (hb : Below w.heap.size w w') : SlK w' w'.heap.size a n ks := by
  obtain ⟨h1, h2⟩ := h
  refine ⟨h1, h2.imp id ?_⟩
  rintro ⟨b, off, ha, hB, hx⟩
  exact ⟨b, off, ha, Nat.lt_of_lt_of_le hB hb.size, fun i k e => ((hx i k e).below hb hB).mono hb.size⟩
def atR (rs : List R4) (i : Nat) : R4 := rs[i]?.getD ⟨0, 0, 0, []⟩
theorem atR_of {rs : List R4} {i : Nat} (h : i < rs.length) : rs[i]? = some (atR rs i) := by simp [atR, List.getElem?_eq_getElem h]
def atK (ks : List K2) (i : Nat) : K2 := ks[i]?.getD ⟨0, []⟩
theorem atK_of {ks : List K2} {i : Nat} (h : i < ks.length) : ks[i]? = some (atK ks i) := by simp [atK, List.getElem?_eq_getElem h]
structure MV where
  ac : Option Addr
  cc : Nat
  al : Option Addr
  cl : Nat
  ad : Option Addr
  cd : Nat
def MV.val (v : MV) (m : M4) : Value := .agg #[.bool m.alive, .slice v.ac m.copies.length v.cc, .slice v.al m.log.length v.cl, .slice v.ad m.cleared.length v.cd]
structure SlM (w : World) (v : MV) (m : M4) : Prop where
  k : SlK w w.heap.size v.ac m.copies.length m.copies
  r : SlR w w.heap.size v.al m.log.length m.log
  n : SlN w w.heap.size v.ad m.cleared.length m.cleared
theorem SlM.later {w w' : World} {v : MV} {m : M4} (h : SlM w v m) (hb : Below w.heap.size w w') : SlM w' v m := ⟨h.k.later hb, h.r.later hb, h.n.later hb⟩
def lensR (rs : List R4) : Nat := (rs.map fun r => r.sets.length).sum
def lensK (ks : List K2) : Nat := (ks.map fun k => k.cells.length).sum
theorem sum_take_succ {ns : List Nat} {j x : Nat} (h : ns[j]? = some x) : (ns.take (j + 1)).sum = (ns.take j).sum + x := by
  rw [List.take_add_one, h]; simp
theorem sum_take_le (ns : List Nat) (j : Nat) : (ns.take j).sum ≤ ns.sum := by
  conv => rhs; rw [← List.take_append_drop j ns, List.sum_append]
  omega
theorem sum_mem {ns : List Nat} {x : Nat} (h : x ∈ ns) : x ≤ ns.sum := by
  induction ns with
  | nil => cases h
  | cons y r ih =>
    rcases List.mem_cons.1 h with rfl | h
    · simp
    · have := ih h; simp; omega
def R4.val (r : R4) (a : Option Addr) (cap : Nat) : Value := .agg #[.int .i64 r.kind, .int .i64 r.tx, .int .i64 r.region, .slice a r.sets.length cap]
def K2.val (k : K2) (a : Option Addr) (cap : Nat) : Value := .agg #[.int .i64 k.region, .slice a k.cells.length cap]
def FirstAt (f : Nat → Bool) (n : Nat) (i : Int) : Prop := (i = -1 ∧ ∀ j, j < n → f j = false) ∨ ∃ k : Nat, i = (k : Int) ∧ k < n ∧ f k = true ∧ ∀ j, j < k → f j = false
theorem first_has {f : Nat → Bool} {n : Nat} {i : Int} (h : FirstAt f n i) : decide (0 ≤ i) = !((List.range n).all fun j => !f j) := by
  rcases h with ⟨rfl, h⟩ | ⟨k, rfl, hk, h, _⟩
  · have : ((List.range n).all fun j => !f j) = true := by
      rw [List.all_eq_true]; intro j hj; rw [h j (List.mem_range.1 hj)]; rfl
    rw [this]; rfl
  · have : ((List.range n).all fun j => !f j) = false := by
      rw [List.all_eq_false]; exact ⟨k, List.mem_range.2 hk, by simp [h]⟩
    rw [this]; simp
theorem hidOf {p : Prop} (h : p) : Hid p := h
def idxLogF (w : World) (n : Nat) (rs : List R4)  (f : Nat → Bool) : Prop :=
  ∀ (X : World) (i : Nat) (a' : Option Addr) (cap' : Nat), Below w.heap.size w X → i < n → Sl X X.heap.size a' (atR rs i).sets.length (atR rs i).sets → Calls Tryz.prog 187 #[(atR rs i).val a' cap'] X fun e w' => e = .returned (.bool (f i)) ∧ Below X.heap.size X w'
set_option maxHeartbeats 2000000 in
theorem idxLog (w : World) (a : Option Addr) (n cap : Nat) (rs : List R4)  (f : Nat → Bool) (hn : n ≤ maxLen) (hs : SlR w w.heap.size a n rs) (hf : idxLogF w n rs  f) :
    Calls Tryz.prog 214 #[.slice a n cap, .func (.func 187) #[] #[]] w fun e w' => (∃ i : Int, e = .returned (.int .i64 i) ∧ FirstAt f n i) ∧ Below w.heap.size w w' := by
  unfold maxLen at hn
  obtain ⟨hx, hs⟩ := hs
  have HF := hidOf hf
  clear hf
  go_enter Tryz.func214, Tryz.ntmps214
  go_wp2
  go_loopw [8] (fun v wr => ∃ j : Nat, j ≤ n ∧ v = .int .i64 j ∧ Below w.heap.size w wr ∧ ∀ i, i < j → f i = false) (fun v _ => n - (intOf v).toNat)
  case atStart => exact ⟨0, Nat.zero_le _, rfl, Below.refl _ _, fun i h => absurd h (by omega)⟩
  case round =>
    obtain ⟨j, hj, rfl, hbl, hall⟩ := hrel
    by_cases hlt : j < n
    · rcases hs with hs | ⟨b, off, rfl, hb, h1⟩
      · omega
      · have hr := (h1 j _ (atR_of (by omega))).below hbl hb
        have c0 := hr.c0
        have c1 := hr.c1
        have c2 := hr.c2
        obtain ⟨a', cap', c3, hsl, hcp⟩ := hr.c3
        have KA : Hid ((∀ i, i < j → f i = false) ∧ Below w.heap.size w wr) := ⟨hall, hbl⟩
        have hw := HF.out wr j a' cap' hbl hlt (hsl.mono hbl.size)
        simp only [R4.val] at hw
        clear h1 hr hall hsl hbl hcp
        generalize (atR rs j).sets.length = ln at *
        cases hp : f j with
        | true =>
          rw [hp] at hw
          go_wp2_with fail
          refine hw.mono ?_
          clear hw
          rintro e w1 ⟨rfl, b1⟩
          go_wp2
          go_ret
          exact ⟨⟨_, rfl, .inr ⟨j, rfl, hlt, hp, KA.out.1⟩⟩, KA.out.2.trans (b1.mono KA.out.2.size)⟩
        | false =>
          rw [hp] at hw
          go_wp2_with fail
          refine hw.mono ?_
          clear hw
          rintro e w1 ⟨rfl, b1⟩
          go_wp2
          exact ⟨⟨j + 1, by omega, by simp, KA.out.2.trans (b1.mono KA.out.2.size), fun i hi => by
            by_cases e : i = j
            · rw [e]; exact hp
            · exact KA.out.1 i (by omega)⟩, by simp [intOf]; omega⟩
    · have : j = n := by omega
      subst this
      have hd : decide ((j : Int) < (j : Int)) = false := by simp
      have KA : Hid (∀ i, i < j → f i = false) := hall
      clear hs hall
      go_wp2
      go_ret
      exact ⟨⟨_, rfl, .inl ⟨rfl, KA.out⟩⟩, hbl⟩
theorem idxLogHas (w : World) (a : Option Addr) (n cap : Nat) (rs : List R4) (f : Nat → Bool) (hn : n ≤ maxLen) (hs : SlR w w.heap.size a n rs) (hf : idxLogF w n rs f) :
    Calls Tryz.prog 189 #[.slice a n cap, .func (.func 187) #[] #[]] w fun e w' => e = .returned (.bool (!((List.range n).all fun j => !f j))) ∧ Below w.heap.size w w' := by
  have hi := idxLog w a n cap rs f hn hs hf
  clear hs hf
  go_enter Tryz.func189, Tryz.ntmps189
  go_wp2_with fail
  refine hi.mono ?_
  clear hi
  rintro e w1 ⟨⟨i, rfl, hb0⟩, b1⟩
  have hb := first_has hb0
  clear hb0
  generalize hV : (!((List.range n).all fun j => !f j)) = V at hb
  go_wp2
  go_ret
  exact ⟨by rw [hV]; rfl, b1⟩
def idxCopF (w : World) (n : Nat) (rs : List K2)  (f : Nat → Bool) : Prop :=
  ∀ (X : World) (i : Nat) (a' : Option Addr) (cap' : Nat), Below w.heap.size w X → i < n → SlC X X.heap.size a' (atK rs i).cells.length (atK rs i).cells → Calls Tryz.prog 181 #[(atK rs i).val a' cap'] X fun e w' => e = .returned (.bool (f i)) ∧ Below X.heap.size X w'
set_option maxHeartbeats 2000000 in
theorem idxCop (w : World) (a : Option Addr) (n cap : Nat) (rs : List K2)  (f : Nat → Bool) (hn : n ≤ maxLen) (hs : SlK w w.heap.size a n rs) (hf : idxCopF w n rs  f) :
    Calls Tryz.prog 212 #[.slice a n cap, .func (.func 181) #[] #[]] w fun e w' => (∃ i : Int, e = .returned (.int .i64 i) ∧ FirstAt f n i) ∧ Below w.heap.size w w' := by
  unfold maxLen at hn
  obtain ⟨hx, hs⟩ := hs
  have HF := hidOf hf
  clear hf
  go_enter Tryz.func212, Tryz.ntmps212
  go_wp2
  go_loopw [8] (fun v wr => ∃ j : Nat, j ≤ n ∧ v = .int .i64 j ∧ Below w.heap.size w wr ∧ ∀ i, i < j → f i = false) (fun v _ => n - (intOf v).toNat)
  case atStart => exact ⟨0, Nat.zero_le _, rfl, Below.refl _ _, fun i h => absurd h (by omega)⟩
  case round =>
    obtain ⟨j, hj, rfl, hbl, hall⟩ := hrel
    by_cases hlt : j < n
    · rcases hs with hs | ⟨b, off, rfl, hb, h1⟩
      · omega
      · have hr := (h1 j _ (atK_of (by omega))).below hbl hb
        have c0 := hr.c0
        obtain ⟨a', cap', c1, hsl, hcp⟩ := hr.c1
        have KA : Hid ((∀ i, i < j → f i = false) ∧ Below w.heap.size w wr) := ⟨hall, hbl⟩
        have hw := HF.out wr j a' cap' hbl hlt (hsl.mono hbl.size)
        simp only [K2.val] at hw
        clear h1 hr hall hsl hbl hcp
        generalize (atK rs j).cells.length = ln at *
        cases hp : f j with
        | true =>
          rw [hp] at hw
          go_wp2_with fail
          refine hw.mono ?_
          clear hw
          rintro e w1 ⟨rfl, b1⟩
          go_wp2
          go_ret
          exact ⟨⟨_, rfl, .inr ⟨j, rfl, hlt, hp, KA.out.1⟩⟩, KA.out.2.trans (b1.mono KA.out.2.size)⟩
        | false =>
          rw [hp] at hw
          go_wp2_with fail
          refine hw.mono ?_
          clear hw
          rintro e w1 ⟨rfl, b1⟩
          go_wp2
          exact ⟨⟨j + 1, by omega, by simp, KA.out.2.trans (b1.mono KA.out.2.size), fun i hi => by
            by_cases e : i = j
            · rw [e]; exact hp
            · exact KA.out.1 i (by omega)⟩, by simp [intOf]; omega⟩
    · have : j = n := by omega
      subst this
      have hd : decide ((j : Int) < (j : Int)) = false := by simp
      have KA : Hid (∀ i, i < j → f i = false) := hall
      clear hs hall
      go_wp2
      go_ret
      exact ⟨⟨_, rfl, .inl ⟨rfl, KA.out⟩⟩, hbl⟩
theorem idxCopHas (w : World) (a : Option Addr) (n cap : Nat) (rs : List K2) (f : Nat → Bool) (hn : n ≤ maxLen) (hs : SlK w w.heap.size a n rs) (hf : idxCopF w n rs f) :
    Calls Tryz.prog 186 #[.slice a n cap, .func (.func 181) #[] #[]] w fun e w' => e = .returned (.bool (!((List.range n).all fun j => !f j))) ∧ Below w.heap.size w w' := by
  have hi := idxCop w a n cap rs f hn hs hf
  clear hs hf
  go_enter Tryz.func186, Tryz.ntmps186
  go_wp2_with fail
  refine hi.mono ?_
  clear hi
  rintro e w1 ⟨⟨i, rfl, hb0⟩, b1⟩
  have hb := first_has hb0
  clear hb0
  generalize hV : (!((List.range n).all fun j => !f j)) = V at hb
  go_wp2
  go_ret
  exact ⟨by rw [hV]; rfl, b1⟩
def idxNumF (w : World) (n : Nat) (rs : List Int)  (f : Nat → Bool) : Prop :=
  ∀ (X : World) (i : Nat) , Below w.heap.size w X → i < n → True → Calls Tryz.prog 190 #[.int .i64 (atN rs i)] X fun e w' => e = .returned (.bool (f i)) ∧ Below X.heap.size X w'
set_option maxHeartbeats 2000000 in
theorem idxNum (w : World) (a : Option Addr) (n cap : Nat) (rs : List Int)  (f : Nat → Bool) (hn : n ≤ maxLen) (hs : SlN w w.heap.size a n rs) (hf : idxNumF w n rs  f) :
    Calls Tryz.prog 215 #[.slice a n cap, .func (.func 190) #[] #[]] w fun e w' => (∃ i : Int, e = .returned (.int .i64 i) ∧ FirstAt f n i) ∧ Below w.heap.size w w' := by
  unfold maxLen at hn
  obtain ⟨hx, hs⟩ := hs
  have HF := hidOf hf
  clear hf
  go_enter Tryz.func215, Tryz.ntmps215
  go_wp2
  go_loopw [8] (fun v wr => ∃ j : Nat, j ≤ n ∧ v = .int .i64 j ∧ Below w.heap.size w wr ∧ ∀ i, i < j → f i = false) (fun v _ => n - (intOf v).toNat)
  case atStart => exact ⟨0, Nat.zero_le _, rfl, Below.refl _ _, fun i h => absurd h (by omega)⟩
  case round =>
    obtain ⟨j, hj, rfl, hbl, hall⟩ := hrel
    by_cases hlt : j < n
    · rcases hs with hs | ⟨b, off, rfl, hb, h1⟩
      · omega
      · have c0 := (hbl.cell (p := ⟨b, off + j, none⟩) hb).trans (h1 j _ (atN_of (by omega)))
        have KA : Hid ((∀ i, i < j → f i = false) ∧ Below w.heap.size w wr) := ⟨hall, hbl⟩
        have hw := HF.out wr j hbl hlt trivial
        clear h1 hall hbl
        cases hp : f j with
        | true =>
          rw [hp] at hw
          go_wp2_with fail
          refine hw.mono ?_
          clear hw
          rintro e w1 ⟨rfl, b1⟩
          go_wp2
          go_ret
          exact ⟨⟨_, rfl, .inr ⟨j, rfl, hlt, hp, KA.out.1⟩⟩, KA.out.2.trans (b1.mono KA.out.2.size)⟩
        | false =>
          rw [hp] at hw
          go_wp2_with fail
          refine hw.mono ?_
          clear hw
          rintro e w1 ⟨rfl, b1⟩
          go_wp2
          exact ⟨⟨j + 1, by omega, by simp, KA.out.2.trans (b1.mono KA.out.2.size), fun i hi => by
            by_cases e : i = j
            · rw [e]; exact hp
            · exact KA.out.1 i (by omega)⟩, by simp [intOf]; omega⟩
    · have : j = n := by omega
      subst this
      have hd : decide ((j : Int) < (j : Int)) = false := by simp
      have KA : Hid (∀ i, i < j → f i = false) := hall
      clear hs hall
      go_wp2
      go_ret
      exact ⟨⟨_, rfl, .inl ⟨rfl, KA.out⟩⟩, hbl⟩
theorem idxNumHas (w : World) (a : Option Addr) (n cap : Nat) (rs : List Int) (f : Nat → Bool) (hn : n ≤ maxLen) (hs : SlN w w.heap.size a n rs) (hf : idxNumF w n rs f) :
    Calls Tryz.prog 193 #[.slice a n cap, .func (.func 190) #[] #[]] w fun e w' => e = .returned (.bool (!((List.range n).all fun j => !f j))) ∧ Below w.heap.size w w' := by
  have hi := idxNum w a n cap rs f hn hs hf
  clear hs hf
  go_enter Tryz.func193, Tryz.ntmps193
  go_wp2_with fail
  refine hi.mono ?_
  clear hi
  rintro e w1 ⟨⟨i, rfl, hb0⟩, b1⟩
  have hb := first_has hb0
  clear hb0
  generalize hV : (!((List.range n).all fun j => !f j)) = V at hb
  go_wp2
  go_ret
  exact ⟨by rw [hV]; rfl, b1⟩
end Go.Proofs.YtdmpobegobfpjaaGreat
namespace Go.Proofs.YtdmpobegobfpjaaGreat
open Go.RowKit
open Go.Sort (grow)
def atC2 (xs : List C2) (i : Nat) : C2 := xs[i]?.getD ⟨0, 0⟩
theorem atC2_of {xs : List C2} {i : Nat} (h : i < xs.length) : xs[i]? = some (atC2 xs i) := by simp [atC2, List.getElem?_eq_getElem h]
def eqC2 (x y : C2) : Bool := (x.head == y.head) && (x.value == y.value)
def samB (xs ys : List C2) : Bool := (List.range 6).all fun s => eqC2 (atC2 xs s) (atC2 ys s)
theorem eqCell_run (a b c d : Int) (w : World) : (Op.equalIn 10000 75 (.agg #[.int .i64 a, .int .i64 b]) (.agg #[.int .i64 c, .int .i64 d])).run Tryz.prog w = .ok (a == c && b == d) w := by
  have hS : Tryz.prog.underlying 75 = some (.struct (Tryz.prog.fieldsOf 75)) := by kernel_rfl
  have hp : Tryz.prog.stoodInHeld 75 = false := by kernel_rfl
  rw [show (10000 : Nat) = 9999 + 1 from rfl, run_equalIn_agg w 9999 75 _ _ hS hp]
  simp only [Program.fieldsOf, Tryz.underlying75]
  go_simp
  by_cases h1 : a = c <;> by_cases h2 : b = d <;> simp [h1, h2]
theorem eqCell_guard : Tryz.prog.eqGuardType Tryz.prog.depth 75 = false := by kernel_rfl
set_option maxHeartbeats 400000 in
theorem specVersionV_yes (h : Int) (w : World) (h1 : 0 ≤ h) (h2 : h ≤ 4000003) :
    Calls Tryz.prog 80 #[.int .i64 h] w fun e w' => e = .returned (.int .i64 (h / 4)) ∧ w' = w := by
  · go_enter Tryz.func80, Tryz.ntmps80
    go_wp2
    go_ret
    exact ⟨rfl, rfl⟩
set_option maxHeartbeats 400000 in
theorem specVersionV_no (h : Int) (w : World) (hh : h < 0 ∨ 4000003 < h) :
    Calls Tryz.prog 80 #[.int .i64 h] w fun e w' => e = .returned (.int .i64 (-1)) ∧ w' = w := by
  rcases hh with hh | hh
  · have d : decide (0 ≤ h) = false := by simp; omega
    go_enter Tryz.func80, Tryz.ntmps80
    go_wp2
    go_ret
    exact ⟨rfl, rfl⟩
  · have d : decide (h ≤ 4000003) = false := by simp; omega
    go_enter Tryz.func80, Tryz.ntmps80
    go_wp2
    go_ret
    exact ⟨rfl, rfl⟩
def verV (h : Int) : Int := if inB 0 4000003 h = true then h / 4 else -1
theorem specVersion_any (h : Int) (w : World) : Calls Tryz.prog 80 #[.int .i64 h] w fun e w' => e = .returned (.int .i64 (verV h)) ∧ w' = w := by
  by_cases hh : 0 ≤ h ∧ h ≤ 4000003
  · rw [verV, if_pos (inB_yes hh.1 hh.2)]; exact specVersionV_yes h w hh.1 hh.2
  · rw [verV, if_neg (by rw [inB_iff]; omega)]; exact specVersionV_no h w (by omega)
def hdV (v : Int) (u : Bool) : Int := 4 * v + (if u = true then 2 else 0)
theorem l1Head_val (w : World) (v : Int) (u : Bool) (h0 : 0 ≤ v) (h1 : v ≤ 1000000) : Calls Tryz.prog 131 #[.int .i64 v, .bool u, .bool false] w fun e w' => e = .returned (.int .i64 (hdV v u)) ∧ w' = w := by
  cases u
  all_goals
    unfold hdV
    go_enter Tryz.func131, Tryz.ntmps131
    go_wp2
    go_ret
    exact ⟨by simp, rfl⟩
def insC (xs : List C2) (s : S5) : List C2 := if s.version < verV (atC2 xs s.slot.toNat).head then xs else xs.set s.slot.toNat ⟨hdV (s.version + 1) s.used, if s.used = true then s.value else 0⟩
theorem insC_len (xs : List C2) (s : S5) : (insC xs s).length = xs.length := by unfold insC; split <;> simp
theorem build_Cell (a b : Int) (w : World) : (Instr.build 75 #[(0, .int .i64 a), (1, .int .i64 b)]).run Tryz.prog w = .ok (.agg #[.int .i64 a, .int .i64 b]) w := run_build w 75 _ _ (by kernel_rfl)
theorem cells_put {W : World} {g t : Nat} {xs : List C2} (h : CellsAt W g 0 xs) (hr : Room W g (xs.length * 2)) (ht : t < xs.length) (y : C2) : CellsAt ((W.setCell ⟨g, t * 2, none⟩ (.int .i64 y.head)).setCell ⟨g, t * 2 + 1, none⟩ (.int .i64 y.value)) g 0 (xs.set t y) ∧ Room ((W.setCell ⟨g, t * 2, none⟩ (.int .i64 y.head)).setCell ⟨g, t * 2 + 1, none⟩ (.int .i64 y.value)) g (xs.length * 2) := by
  refine ⟨fun i s hs => ?_, (hr.set _).set _⟩
  rw [Nat.zero_add]
  by_cases e : i = t
  · subst e
    rw [List.getElem?_set_self ht] at hs
    cases hs
    obtain ⟨v0, h0, _⟩ := hr (i * 2) (by omega)
    obtain ⟨v1, h1, _⟩ := hr (i * 2 + 1) (by omega)
    exact ⟨(cell_set_other (by omega)).trans (cell_set_same h0), cell_set_same ((cell_set_other (by omega)).trans h1)⟩
  · rw [List.getElem?_set_ne (fun h => e h.symm)] at hs
    have := h i s hs
    rw [Nat.zero_add] at this
    exact ⟨(cell_set_other (by omega)).trans ((cell_set_other (by omega)).trans this.c0), (cell_set_other (by omega)).trans ((cell_set_other (by omega)).trans this.c1)⟩
set_option maxRecDepth 100000 in
set_option maxHeartbeats 8000000 in
theorem l3Install1_any (w : World) (g cg sb so sc t : Nat) (xs : List C2) (s : S5) (hg : g < w.heap.size) (hx : CellsAt w g 0 xs) (hr : Room w g (xs.length * 2)) (h6 : xs.length = 6) (hs : tx.SetAt w sb so s) (hsl : s.slot = (t : Int)) (ht : t < 6) (hv0 : 0 ≤ s.version) (hv1 : s.version < 1000000) :
    Calls Tryz.prog 82 #[.slice (some ⟨g, 0, none⟩) 6 cg, .slice (some ⟨sb, so, none⟩) 1 sc] w fun e w' => (∃ v, e = .returned v) ∧ Turned g w w' ∧ CellsAt w' g 0 (insC xs s) ∧ Room w' g (xs.length * 2) := by
  have c0 := hs.c0
  have c1 := hs.c1
  have c2 := hs.c2
  have c3 := hs.c3
  have c4 := hs.c4
  rw [hsl] at c1
  obtain ⟨U, hU⟩ : ∃ Y, Y = w.alloc (.cells #[.int .i64 s.region, .int .i64 (t : Int), .int .i64 s.value, .bool s.used, .int .i64 s.version] 106) := ⟨_, rfl⟩
  have bU : Below w.heap.size w U := by rw [hU]; exact (Below.refl _ _).alloc (Nat.le_refl _) _
  have XU : Hid (Bx U w.heap.size [.int .i64 s.region, .int .i64 (t : Int), .int .i64 s.value, .bool s.used, .int .i64 s.version]) := by unfold Hid; rw [hU]; exact Bx.made w [.int .i64 s.region, .int .i64 (t : Int), .int .i64 s.value, .bool s.used, .int .i64 s.version] _
  have HX : Hid (CellsAt U g 0 xs ∧ Room U g (xs.length * 2) ∧ g < w.heap.size) := ⟨hx.below bU hg, hr.below bU hg, hg⟩
  have hcl := HX.out.1 t _ (atC2_of (by omega))
  have BU := hidOf bU
  have HI : Hid (insC xs s = if s.version < verV (atC2 xs t).head then xs else xs.set t ⟨hdV (s.version + 1) s.used, if s.used = true then s.value else 0⟩) := by unfold Hid insC; rw [hsl]; rfl
  have H6 : Hid (xs.length = 6) := h6
  have jt : (t : Int) < 6 := by omega
  obtain ⟨y, hy⟩ : ∃ y, atC2 xs t = y := ⟨_, rfl⟩
  rw [hy] at hcl HI
  have y0 : ∀ dd os, (grow (redrawn U dd) os).cell? ⟨g, t * 2, none⟩ = some (.int .i64 y.head) := fun dd os => ((below_regrown U dd os).cell (p := ⟨g, t * 2, none⟩) (by have := bU.size; show g < _; omega)).trans (by have := hcl.c0; rwa [Nat.zero_add] at this)
  have z1 : ∀ dd os, (grow (redrawn U dd) os).cell? ⟨w.heap.size, 1, none⟩ = some (.int .i64 (t : Int)) := fun dd os => ((below_regrown U dd os).cell (p := ⟨w.heap.size, 1, none⟩) XU.out.2.2).trans (XU.out.1 1 _ rfl)
  have z4 : ∀ dd os, (grow (redrawn U dd) os).cell? ⟨w.heap.size, 4, none⟩ = some (.int .i64 s.version) := fun dd os => ((below_regrown U dd os).cell (p := ⟨w.heap.size, 4, none⟩) XU.out.2.2).trans (XU.out.1 4 _ rfl)
  have cQ : ∀ dd os, Calls Tryz.prog 80 #[.int .i64 y.head] (grow (redrawn U dd) os) fun e w'' => e = .returned (.int .i64 (verV y.head)) ∧ ∃ p : Regrown, w'' = grow (redrawn U p.d) p.os := fun dd os => (specVersion_any y.head (grow (redrawn U dd) os)).mono fun e w'' h => ⟨h.1, ⟨⟨dd, os⟩, h.2⟩⟩
  have hbd := build_Cell
  clear hx hr hg hs h6 bU hcl hy
  go_enter Tryz.func82, Tryz.ntmps82
  go_wp2
  go_loopw [4] (fun v4 wr => (v4 = .int .i64 0 ∧ wr = w) ∨ (v4 = .int .i64 1 ∧ Turned g w wr ∧ CellsAt wr g 0 (insC xs s) ∧ Room wr g (xs.length * 2))) (fun v4 _ => 1 - (intOf v4).toNat)
  case atStart => exact .inl ⟨rfl, rfl⟩
  case round =>
    rcases hrel with ⟨rfl, rfl⟩ | ⟨rfl, htu, hcs, hrm⟩
    case inr =>
      have KE : Hid (Turned g w wr ∧ CellsAt wr g 0 (insC xs s) ∧ Room wr g (xs.length * 2)) := ⟨htu, hcs, hrm⟩
      clear htu hcs hrm cQ y0 z1 z4
      go_wp2
      go_end0
      exact ⟨⟨_, rfl⟩, KE.out⟩
    case inl =>
    generalize wr = w at *
    go_wp2_with fail
    rw [← hU]
    clear hU c0 c1 c2 c3 c4
    refine wp_region_quiet_below (by kernel_rfl) (by kernel_rfl) ?_
    repeat (go_big_quiet_step (exact cQ _ _))
    refine wpQuiet_nil ?_
    intro _ hw'
    obtain ⟨⟨dq, osq⟩, hw''⟩ := hw'
    subst hw''
    have bq := below_regrown U dq osq
    have KW : Hid (Below w.heap.size w (grow (redrawn U dq) osq)) := bstep BU.out bq
    have XA : Hid (Bx (grow (redrawn U dq) osq) w.heap.size [.int .i64 s.region, .int .i64 (t : Int), .int .i64 s.value, .bool s.used, .int .i64 s.version]) := XU.out.later bq
    have HCW : Hid (CellsAt (grow (redrawn U dq) osq) g 0 xs) := HX.out.1.below bq (Nat.lt_of_lt_of_le HX.out.2.2 BU.out.size)
    have HRW : Hid (g < (grow (redrawn U dq) osq).heap.size ∧ Room (grow (redrawn U dq) osq) g (xs.length * 2)) := ⟨Nat.lt_of_lt_of_le HX.out.2.2 KW.out.size, HX.out.2.1.below bq (Nat.lt_of_lt_of_le HX.out.2.2 BU.out.size)⟩
    clear bq cQ y0 z1 z4
    generalize grow (redrawn U dq) osq = W4 at *
    cases hgt : decide (s.version < verV y.head) with
    | true =>
      have HB : Hid (insC xs s = xs) := by unfold Hid; rw [HI.out, if_pos (by simpa using hgt)]
      go_wp2
      exact ⟨.inr ⟨rfl, (Turned.refl _ _).of_below KW.out, by rw [HB.out]; exact HCW.out, HRW.out.2⟩, by simp [intOf]⟩
    | false =>
    have HB : Hid (insC xs s = xs.set t ⟨hdV (s.version + 1) s.used, if s.used = true then s.value else 0⟩) := by unfold Hid; rw [HI.out, if_neg (by simpa using hgt)]
    cases hu : s.used with
    | true =>
      rw [hu] at XA HB
      have HB2 : Hid (insC xs s = xs.set t ⟨hdV (s.version + 1) true, s.value⟩) := by unfold Hid; rw [HB.out]; rfl
      have a2 := XA.out.1 2 _ rfl
      have a3 := XA.out.1 3 _ rfl
      clear hu HB
      go_wp2_with fail
      clear a2 a3
      refine wp_region_z (fun z => z == 12) (fun X : World => Below W4.heap.size W4 X) (by kernel_rfl) ?_
      have hS : (fun X : World => Below W4.heap.size W4 X) W4.drew := (Below.refl _ _).drew
      generalize W4.drew = Wd at *
      refine wpZ_take (i := 0) (v := ?_) rfl (by kernel_rfl) (fun _ _ _ h => h) (Or.inl ⟨by rfl, ?_⟩) hS ?_
      rotate_left
      · (intro X hSw; go_simp; first | done | with_reducible rfl | rfl | (rw [if_pos (by omega)]))
      simp only [Act.put]
      refine wpZ_take (i := 1) (v := ?_) rfl (by kernel_rfl) (fun _ _ _ h => h) (Or.inl ⟨by rfl, ?_⟩) hS ?_
      rotate_left
      · (intro X hSw; go_simp; first | done | with_reducible rfl | rfl | (rw [if_pos (by omega)]))
      simp only [Act.put]
      refine wpZ_take (i := 2) (v := ?_) rfl (by kernel_rfl) (fun _ _ _ h => h) (Or.inl ⟨by rfl, ?_⟩) hS ?_
      rotate_left
      · (intro X hSw; have q := (XA.out.later hSw).1 1 _ rfl; go_simp; first | done | with_reducible rfl | rfl | (rw [if_pos (by omega)]))
      simp only [Act.put]
      refine wpZ_take (i := 3) (v := ?_) rfl (by kernel_rfl) (fun _ _ _ h => h) (Or.inl ⟨by rfl, ?_⟩) hS ?_
      rotate_left
      · (intro X hSw; go_simp; first | done | with_reducible rfl | rfl | (rw [if_pos (by omega)]))
      simp only [Act.put]
      refine wpZ_take (i := 4) (v := ?_) rfl (by kernel_rfl) (fun _ _ _ h => h) (Or.inl ⟨by rfl, ?_⟩) hS ?_
      rotate_left
      · (intro X hSw; have q := (XA.out.later hSw).1 4 _ rfl; go_simp; first | done | with_reducible rfl | rfl | (rw [if_pos (by omega)]))
      simp only [Act.put]
      refine wpZ_take (i := 5) (v := ?_) rfl (by kernel_rfl) (fun _ _ _ h => h) (Or.inl ⟨by rfl, ?_⟩) hS ?_
      rotate_left
      · (intro X hSw; go_simp; first | done | with_reducible rfl | rfl | (rw [if_pos (by omega)]))
      simp only [Act.put]
      refine wpZ_take (i := 6) (v := ?_) rfl (by kernel_rfl) (fun _ _ _ h => h) (Or.inl ⟨by rfl, ?_⟩) hS ?_
      rotate_left
      · (intro X hSw; go_simp; first | done | with_reducible rfl | rfl | (rw [if_pos (by omega)]))
      simp only [Act.put]
      refine wpZ_take (i := 7) (v := ?_) rfl (by kernel_rfl) (fun _ _ _ h => h) (Or.inl ⟨by rfl, ?_⟩) hS ?_
      rotate_left
      · (intro X hSw; have q := (XA.out.later hSw).1 3 _ rfl; go_simp; first | done | with_reducible rfl | rfl | (rw [if_pos (by omega)]))
      simp only [Act.put]
      refine wpZ_take (i := 9) (v := ?_) rfl (by kernel_rfl) (fun _ _ _ h => h) (Or.inl ⟨by rfl, ?_⟩) hS ?_
      rotate_left
      · (intro X hSw; go_simp; first | done | with_reducible rfl | rfl | (rw [if_pos (by omega)]))
      simp only [Act.put]
      refine wpZ_ready (rs := [8]) (by kernel_rfl) (by simp) ?_
      refine AllZ.cons rfl (fun K hK => ?_) AllZ.nil
      go_simp
      have hwr : IntKind.i64.wrap (s.version + 1) = s.version + 1 := by simp [IntKind.wrap, IntKind.bits, IntKind.signed]; omega
      rw [hwr]
      refine (l1Head_val Wd (s.version + 1) true (by omega) (by omega)).mono ?_
      rintro e X2 ⟨rfl, hX2⟩
      subst hX2
      refine hK.out _ _ (fun _ => hS) ?_
      clear hK K
      refine wpZ_ready (rs := [10]) (by kernel_rfl) (by simp) ?_
      refine AllZ.cons rfl (fun K hK => ?_) AllZ.nil
      go_simp
      refine hK.out _ _ (fun _ => hS) ?_
      clear hK K
      refine wpZ_ready (rs := [11]) (by kernel_rfl) (by simp) ?_
      refine AllZ.cons rfl (fun K hK => ?_) AllZ.nil
      go_simp
      refine hK.out _ _ (fun _ => hS) ?_
      clear hK K
      have hrm := HRW.out.2.below hS HRW.out.1
      obtain ⟨v0, n0, f0⟩ := hrm (t * 2) (by rw [H6.out]; omega)
      obtain ⟨v1, n1, f1⟩ := hrm (t * 2 + 1) (by rw [H6.out]; omega)
      have KP : Hid (Turned g w ((X2.setCell ⟨g, t * 2, none⟩ (.int .i64 (hdV (s.version + 1) true))).setCell ⟨g, t * 2 + 1, none⟩ (.int .i64 (s.value))) ∧ CellsAt ((X2.setCell ⟨g, t * 2, none⟩ (.int .i64 (hdV (s.version + 1) true))).setCell ⟨g, t * 2 + 1, none⟩ (.int .i64 (s.value))) g 0 (insC xs s) ∧ Room ((X2.setCell ⟨g, t * 2, none⟩ (.int .i64 (hdV (s.version + 1) true))).setCell ⟨g, t * 2 + 1, none⟩ (.int .i64 (s.value))) g (xs.length * 2)) := by
        have hp := cells_put (HCW.out.below hS HRW.out.1) hrm (t := t) (by rw [H6.out]; exact ht) ⟨hdV (s.version + 1) true, s.value⟩
        rw [HB2.out]
        exact ⟨(((Turned.refl _ _).of_below (bstep KW.out hS)).setCell _ _).setCell _ _, hp.1, hp.2⟩
      clear hrm hS
      refine wpZ_ready (rs := [12]) (by kernel_rfl) (by simp) ?_
      refine AllZ.cons rfl (fun K hK => ?_) AllZ.nil
      go_simp
      refine hK.out _ _ (fun h => absurd (show false = true from h.symm.trans (by kernel_rfl)) (by decide)) ?_
      clear hK K
      refine wpZ_done (by kernel_rfl) ?_ _
      go_wp2
      exact ⟨.inr ⟨rfl, KP.out⟩, by simp [intOf]⟩
    | false =>
      rw [hu] at XA HB
      have HB2 : Hid (insC xs s = xs.set t ⟨hdV (s.version + 1) false, 0⟩) := by unfold Hid; rw [HB.out]; rfl
      have a2 := XA.out.1 2 _ rfl
      have a3 := XA.out.1 3 _ rfl
      clear hu HB
      go_wp2_with fail
      clear a2 a3
      refine wp_region_z (fun z => z == 12) (fun X : World => Below W4.heap.size W4 X) (by kernel_rfl) ?_
      have hS : (fun X : World => Below W4.heap.size W4 X) W4.drew := (Below.refl _ _).drew
      generalize W4.drew = Wd at *
      refine wpZ_take (i := 0) (v := ?_) rfl (by kernel_rfl) (fun _ _ _ h => h) (Or.inl ⟨by rfl, ?_⟩) hS ?_
      rotate_left
      · (intro X hSw; go_simp; first | done | with_reducible rfl | rfl | (rw [if_pos (by omega)]))
      simp only [Act.put]
      refine wpZ_take (i := 1) (v := ?_) rfl (by kernel_rfl) (fun _ _ _ h => h) (Or.inl ⟨by rfl, ?_⟩) hS ?_
      rotate_left
      · (intro X hSw; go_simp; first | done | with_reducible rfl | rfl | (rw [if_pos (by omega)]))
      simp only [Act.put]
      refine wpZ_take (i := 2) (v := ?_) rfl (by kernel_rfl) (fun _ _ _ h => h) (Or.inl ⟨by rfl, ?_⟩) hS ?_
      rotate_left
      · (intro X hSw; have q := (XA.out.later hSw).1 1 _ rfl; go_simp; first | done | with_reducible rfl | rfl | (rw [if_pos (by omega)]))
      simp only [Act.put]
      refine wpZ_take (i := 3) (v := ?_) rfl (by kernel_rfl) (fun _ _ _ h => h) (Or.inl ⟨by rfl, ?_⟩) hS ?_
      rotate_left
      · (intro X hSw; go_simp; first | done | with_reducible rfl | rfl | (rw [if_pos (by omega)]))
      simp only [Act.put]
      refine wpZ_take (i := 4) (v := ?_) rfl (by kernel_rfl) (fun _ _ _ h => h) (Or.inl ⟨by rfl, ?_⟩) hS ?_
      rotate_left
      · (intro X hSw; have q := (XA.out.later hSw).1 4 _ rfl; go_simp; first | done | with_reducible rfl | rfl | (rw [if_pos (by omega)]))
      simp only [Act.put]
      refine wpZ_take (i := 5) (v := ?_) rfl (by kernel_rfl) (fun _ _ _ h => h) (Or.inl ⟨by rfl, ?_⟩) hS ?_
      rotate_left
      · (intro X hSw; go_simp; first | done | with_reducible rfl | rfl | (rw [if_pos (by omega)]))
      simp only [Act.put]
      refine wpZ_take (i := 6) (v := ?_) rfl (by kernel_rfl) (fun _ _ _ h => h) (Or.inl ⟨by rfl, ?_⟩) hS ?_
      rotate_left
      · (intro X hSw; go_simp; first | done | with_reducible rfl | rfl | (rw [if_pos (by omega)]))
      simp only [Act.put]
      refine wpZ_take (i := 7) (v := ?_) rfl (by kernel_rfl) (fun _ _ _ h => h) (Or.inl ⟨by rfl, ?_⟩) hS ?_
      rotate_left
      · (intro X hSw; have q := (XA.out.later hSw).1 3 _ rfl; go_simp; first | done | with_reducible rfl | rfl | (rw [if_pos (by omega)]))
      simp only [Act.put]
      refine wpZ_take (i := 9) (v := ?_) rfl (by kernel_rfl) (fun _ _ _ h => h) (Or.inl ⟨by rfl, ?_⟩) hS ?_
      rotate_left
      · (intro X hSw; go_simp; first | done | with_reducible rfl | rfl | (rw [if_pos (by omega)]))
      simp only [Act.put]
      refine wpZ_ready (rs := [8]) (by kernel_rfl) (by simp) ?_
      refine AllZ.cons rfl (fun K hK => ?_) AllZ.nil
      go_simp
      have hwr : IntKind.i64.wrap (s.version + 1) = s.version + 1 := by simp [IntKind.wrap, IntKind.bits, IntKind.signed]; omega
      rw [hwr]
      refine (l1Head_val Wd (s.version + 1) false (by omega) (by omega)).mono ?_
      rintro e X2 ⟨rfl, hX2⟩
      subst hX2
      refine hK.out _ _ (fun _ => hS) ?_
      clear hK K
      refine wpZ_ready (rs := [10]) (by kernel_rfl) (by simp) ?_
      refine AllZ.cons rfl (fun K hK => ?_) AllZ.nil
      go_simp
      refine hK.out _ _ (fun _ => hS) ?_
      clear hK K
      refine wpZ_ready (rs := [11]) (by kernel_rfl) (by simp) ?_
      refine AllZ.cons rfl (fun K hK => ?_) AllZ.nil
      go_simp
      refine hK.out _ _ (fun _ => hS) ?_
      clear hK K
      have hrm := HRW.out.2.below hS HRW.out.1
      obtain ⟨v0, n0, f0⟩ := hrm (t * 2) (by rw [H6.out]; omega)
      obtain ⟨v1, n1, f1⟩ := hrm (t * 2 + 1) (by rw [H6.out]; omega)
      have KP : Hid (Turned g w ((X2.setCell ⟨g, t * 2, none⟩ (.int .i64 (hdV (s.version + 1) false))).setCell ⟨g, t * 2 + 1, none⟩ (.int .i64 (0))) ∧ CellsAt ((X2.setCell ⟨g, t * 2, none⟩ (.int .i64 (hdV (s.version + 1) false))).setCell ⟨g, t * 2 + 1, none⟩ (.int .i64 (0))) g 0 (insC xs s) ∧ Room ((X2.setCell ⟨g, t * 2, none⟩ (.int .i64 (hdV (s.version + 1) false))).setCell ⟨g, t * 2 + 1, none⟩ (.int .i64 (0))) g (xs.length * 2)) := by
        have hp := cells_put (HCW.out.below hS HRW.out.1) hrm (t := t) (by rw [H6.out]; exact ht) ⟨hdV (s.version + 1) false, 0⟩
        rw [HB2.out]
        exact ⟨(((Turned.refl _ _).of_below (bstep KW.out hS)).setCell _ _).setCell _ _, hp.1, hp.2⟩
      clear hrm hS
      refine wpZ_ready (rs := [12]) (by kernel_rfl) (by simp) ?_
      refine AllZ.cons rfl (fun K hK => ?_) AllZ.nil
      go_simp
      refine hK.out _ _ (fun h => absurd (show false = true from h.symm.trans (by kernel_rfl)) (by decide)) ?_
      clear hK K
      refine wpZ_done (by kernel_rfl) ?_ _
      go_wp2
      exact ⟨.inr ⟨rfl, KP.out⟩, by simp [intOf]⟩
end Go.Proofs.YtdmpobegobfpjaaGreat
namespace Go.Proofs.YtdmpobegobfpjaaGreat.tx
open Go.RowKit
open Go.Sort (grow)
structure N5 where
  region : Int
  slot : Int
  version : Int
  value : Int
  used : Bool
set_option maxHeartbeats 1000000 in
theorem toNote_any (w : World) (s : N5) : Calls Tryz.prog 153 #[.agg #[.int .i64 s.region, .int .i64 s.slot, .int .i64 s.version, .int .i64 s.value, .bool s.used]] w fun e w' =>
    e = .returned (.agg #[.int .i64 s.region, .int .i64 s.slot, .int .i64 s.version, .int .i64 s.value, .bool s.used]) ∧ Below w.heap.size w w' := by
  obtain ⟨r, l, v, u, x⟩ := s
  go_enter Tryz.func153, Tryz.ntmps153
  go_wp2
  refine bodyPost_ret (v := .agg #[.int .i64 r, .int .i64 l, .int .i64 v, .int .i64 u, .bool x]) (by simp [results, Tryz.results153, go_sem]) rfl ⟨rfl, ?_⟩
  exact (((Below.refl _ _).alloc (Nat.le_refl _) _).alloc (by simp) _).alloc (by simp; omega) _
structure NoteAt (w : World) (b o : Nat) (s : N5) : Prop where
  c0 : w.cell? ⟨b, o, none⟩ = some (.int .i64 s.region)
  c1 : w.cell? ⟨b, o + 1, none⟩ = some (.int .i64 s.slot)
  c2 : w.cell? ⟨b, o + 2, none⟩ = some (.int .i64 s.version)
  c3 : w.cell? ⟨b, o + 3, none⟩ = some (.int .i64 s.value)
  c4 : w.cell? ⟨b, o + 4, none⟩ = some (.bool s.used)
theorem NoteAt.below {w w' : World} {B b o : Nat} {s : N5} (h : NoteAt w b o s) (hb : Below B w w') (hB : b < B) : NoteAt w' b o s :=
  ⟨by rw [hb.cell hB]; exact h.c0, by rw [hb.cell hB]; exact h.c1, by rw [hb.cell hB]; exact h.c2, by rw [hb.cell hB]; exact h.c3, by rw [hb.cell hB]; exact h.c4⟩
def NotesAt (w : World) (b off : Nat) (xs : List N5) : Prop := ∀ i s, xs[i]? = some s → NoteAt w b (off + i * 5) s
theorem NotesAt.below {w w' : World} {B b off : Nat} {xs : List N5} (h : NotesAt w b off xs) (hb : Below B w w') (hB : b < B) : NotesAt w' b off xs := fun i s e => (h i s e).below hb hB
def SlNo (w : World) (B : Nat) (a : Option Addr) (n : Nat) (xs : List N5) : Prop := xs.length = n ∧ (n = 0 ∨ ∃ b off, a = some ⟨b, off, none⟩ ∧ b < B ∧ NotesAt w b off xs)
theorem SlNo.below {w w' : World} {B : Nat} {a : Option Addr} {n : Nat} {xs : List N5} (h : SlNo w B a n xs) (hb : Below B w w') : SlNo w' B a n xs := by
  obtain ⟨h1, h2⟩ := h
  refine ⟨h1, ?_⟩
  rcases h2 with h2 | ⟨b, off, ha, hB, hx⟩
  · exact .inl h2
  · exact .inr ⟨b, off, ha, hB, hx.below hb hB⟩
theorem SlNo.mono {w : World} {B B' : Nat} {a : Option Addr} {n : Nat} {xs : List N5} (h : SlNo w B a n xs) (hB : B ≤ B') : SlNo w B' a n xs := by
  obtain ⟨h1, h2⟩ := h
  refine ⟨h1, ?_⟩
  rcases h2 with h2 | ⟨b, off, ha, hb, hx⟩
  · exact .inl h2
  · exact .inr ⟨b, off, ha, by omega, hx⟩
theorem NotesAt.far {w : World} {b off : Nat} {xs : List N5} (h : NotesAt w b off xs) {p : Addr} (hp : p.block ≠ b) (v : Value) : NotesAt (w.setCell p v) b off xs := fun i s e =>
  ⟨by rw [cell_set_far hp]; exact (h i s e).c0, by rw [cell_set_far hp]; exact (h i s e).c1, by rw [cell_set_far hp]; exact (h i s e).c2, by rw [cell_set_far hp]; exact (h i s e).c3, by rw [cell_set_far hp]; exact (h i s e).c4⟩
theorem NoteAt.set {w : World} {b o p : Nat} {s : N5} (h : NoteAt w b o s) (hp : p < o ∨ o + 5 ≤ p) (v : Value) : NoteAt (w.setCell ⟨b, p, none⟩ v) b o s :=
  ⟨by rw [cell_set_other (by omega)]; exact h.c0, by rw [cell_set_other (by omega)]; exact h.c1, by rw [cell_set_other (by omega)]; exact h.c2, by rw [cell_set_other (by omega)]; exact h.c3, by rw [cell_set_other (by omega)]; exact h.c4⟩
theorem info_note : (Tryz.prog.info? 104).map (fun i => (i.zero, i.size, i.bytes)) = some (some (.agg #[.int .i64 0, .int .i64 0, .int .i64 0, .int .i64 0, .bool false]), 5, 40) := by kernel_rfl
theorem make_notes (n : Nat) (hn : n ≤ 1048576) (w : World) : (Instr.makeSlice 52 (.int .i64 (n : Int)) (.int .i64 (n : Int))).run Tryz.prog w = .ok (.slice (some ⟨w.heap.size, 0, none⟩) n n) (w.alloc (.cells (madeCells #[.int .i64 0, .int .i64 0, .int .i64 0, .int .i64 0, .bool false] (n * 5)) 104)) := by
  obtain ⟨i, hi, hzz⟩ := Option.map_eq_some_iff.1 info_note
  simp only [Prod.mk.injEq] at hzz
  obtain ⟨hz, hs, hb⟩ := hzz
  have := run_make (P := Tryz.prog) w 52 104 i _ Tryz.underlying52 hi hz .i64 .i64 (n : Int) (n : Int) (by omega) (by omega) (by rw [hb]; omega) (by omega)
  rw [hs] at this
  simpa [Value.cells] using this
theorem NoteAt.put {w : World} {b o : Nat} {v0 v1 v2 v3 v4 : Value} (s : N5) (h0 : w.cell? ⟨b, o, none⟩ = some v0) (h1 : w.cell? ⟨b, o + 1, none⟩ = some v1) (h2 : w.cell? ⟨b, o + 2, none⟩ = some v2) (h3 : w.cell? ⟨b, o + 3, none⟩ = some v3) (h4 : w.cell? ⟨b, o + 4, none⟩ = some v4) :
    NoteAt (((((w.setCell ⟨b, o, none⟩ (.int .i64 s.region)).setCell ⟨b, o + 1, none⟩ (.int .i64 s.slot)).setCell ⟨b, o + 2, none⟩ (.int .i64 s.version)).setCell ⟨b, o + 3, none⟩ (.int .i64 s.value)).setCell ⟨b, o + 4, none⟩ (.bool s.used)) b o s := by
  refine ⟨?_, ?_, ?_, ?_, ?_⟩
  · rw [cell_set_other (by omega), cell_set_other (by omega), cell_set_other (by omega), cell_set_other (by omega)]; exact cell_set_same h0
  · rw [cell_set_other (by omega), cell_set_other (by omega), cell_set_other (by omega)]; exact cell_set_same (by rw [cell_set_other (by omega)]; exact h1)
  · rw [cell_set_other (by omega), cell_set_other (by omega)]; exact cell_set_same (by rw [cell_set_other (by omega), cell_set_other (by omega)]; exact h2)
  · rw [cell_set_other (by omega)]; exact cell_set_same (by rw [cell_set_other (by omega), cell_set_other (by omega), cell_set_other (by omega)]; exact h3)
  · exact cell_set_same (by rw [cell_set_other (by omega), cell_set_other (by omega), cell_set_other (by omega), cell_set_other (by omega)]; exact h4)
theorem NotesAt.put {w : World} {b k : Nat} {xs : List N5} {s : N5} (h : NotesAt w b 0 (xs.take k)) (hs : xs[k]? = some s) {m : Nat} (hr : Room w b m) (hm : k * 5 + 5 ≤ m) :
    NotesAt (((((w.setCell ⟨b, k * 5, none⟩ (.int .i64 s.region)).setCell ⟨b, k * 5 + 1, none⟩ (.int .i64 s.slot)).setCell ⟨b, k * 5 + 2, none⟩ (.int .i64 s.version)).setCell ⟨b, k * 5 + 3, none⟩ (.int .i64 s.value)).setCell ⟨b, k * 5 + 4, none⟩ (.bool s.used)) b 0 (xs.take (k + 1)) := by
  intro i t e
  rw [List.getElem?_take] at e
  split at e
  · rename_i hi
    by_cases hik : i = k
    · subst hik
      rw [hs] at e
      obtain rfl := Option.some.inj e
      obtain ⟨v0, d0, _⟩ := hr (i * 5) (by omega)
      obtain ⟨v1, d1, _⟩ := hr (i * 5 + 1) (by omega)
      obtain ⟨v2, d2, _⟩ := hr (i * 5 + 2) (by omega)
      obtain ⟨v3, d3, _⟩ := hr (i * 5 + 3) (by omega)
      obtain ⟨v4, d4, _⟩ := hr (i * 5 + 4) (by omega)
      simpa using NoteAt.put s d0 d1 d2 d3 d4
    · have := h i t (by rw [List.getElem?_take, if_pos (by omega)]; exact e)
      exact ((((this.set (by omega) _).set (by omega) _).set (by omega) _).set (by omega) _).set (by omega) _
  · cases e
theorem NotesAt.of_block {w w' : World} {b off : Nat} {xs : List N5} (h : NotesAt w b off xs) (e : w'.heap[b]? = w.heap[b]?) : NotesAt w' b off xs := fun i s hs => by
  obtain ⟨c0, c1, c2, c3, c4⟩ := h i s hs
  exact ⟨(World.cell?_of_block (a := ⟨b, _, none⟩) e).trans c0, (World.cell?_of_block (a := ⟨b, _, none⟩) e).trans c1, (World.cell?_of_block (a := ⟨b, _, none⟩) e).trans c2, (World.cell?_of_block (a := ⟨b, _, none⟩) e).trans c3, (World.cell?_of_block (a := ⟨b, _, none⟩) e).trans c4⟩
theorem toNoteS_none (w : World) (a : Option Addr) (cap : Nat) : Calls Tryz.prog 108 #[.slice a 0 cap] w fun e w' =>
    e = .returned (.slice (some ⟨w.heap.size, 0, none⟩) 0 0) ∧ Below w.heap.size w w' ∧ w.heap.size < w'.heap.size := by
  have hmk : ∀ w : World, (Instr.makeSlice 52 (.int .i64 0) (.int .i64 0)).run Tryz.prog w = .ok (.slice (some ⟨w.heap.size, 0, none⟩) 0 0) (w.alloc (.cells (madeCells #[.int .i64 0, .int .i64 0, .int .i64 0, .int .i64 0, .bool false] 0) 104)) := fun w => by simpa using make_notes 0 (by omega) w
  go_enter Tryz.func108, Tryz.ntmps108
  go_wp2
  go_loopw [4] (fun i wr => i = .int .i64 0 ∧ Below w.heap.size w wr ∧ w.heap.size < wr.heap.size) (fun _ _ => 0)
  case atStart => exact ⟨rfl, (Below.refl _ _).alloc (Nat.le_refl _) _, by simp⟩
  case round =>
    obtain ⟨rfl, hbl, hsz⟩ := hrel
    go_wp2
    go_ret
    exact ⟨rfl, hbl, hsz⟩
set_option maxHeartbeats 1000000 in
theorem toNoteS_someR (w : World) (b off n cap : Nat) (xs : List N5) (hx : xs.length = n) (hn : n ≤ 1048576) (hb : b < w.heap.size) (hs : NotesAt w b off xs) : Calls Tryz.prog 108 #[.slice (some ⟨b, off, none⟩) n cap] w fun e w' =>
    e = .returned (.slice (some ⟨w.heap.size, 0, none⟩) n n) ∧ Below w.heap.size w w' ∧ w.heap.size < w'.heap.size ∧ NotesAt w' w.heap.size 0 xs ∧ Room w' w.heap.size (n * 5) := by
  have hmk := make_notes n hn
  go_enter Tryz.func108, Tryz.ntmps108
  go_wp2
  go_loopw [4] (fun i wr => ∃ k : Nat, k ≤ n ∧ i = .int .i64 k ∧ Below w.heap.size w wr ∧ w.heap.size < wr.heap.size ∧ Room wr w.heap.size (n * 5) ∧ NotesAt wr w.heap.size 0 (xs.take k))
     (fun i _ => n - (intOf i).toNat)
  case atStart => exact ⟨0, Nat.zero_le _, rfl, (Below.refl _ _).alloc (Nat.le_refl _) _, by simp, room_made _ _ _ _, fun i s e => by simp at e⟩
  case round =>
    obtain ⟨k, hk, rfl, hbl, hsz, hro, hdo⟩ := hrel
    by_cases hlt : k < n
    · have hs' := hs.below hbl hb
      obtain ⟨s, hsk⟩ : ∃ s, xs[k]? = some s := ⟨xs[k]'(by omega), by simp⟩
      obtain ⟨c0, c1, c2, c3, c4⟩ := hs' k s hsk
      clear hs' hmk
      have K : Hid (Room wr w.heap.size (n * 5) ∧ NotesAt wr w.heap.size 0 (xs.take k) ∧ xs[k]? = some s ∧ Below w.heap.size w wr) := ⟨hro, hdo, hsk, hbl⟩
      clear hro hdo hsk hbl
      go_wp2_with fail
      refine (toNote_any _ s).mono ?_
      rintro e w1 ⟨rfl, b1⟩
      obtain ⟨hro, hdo, hsk, hbl⟩ := K.out
      have hro1 := hro.below b1 hsz
      have hdo1 := hdo.below b1 hsz
      obtain ⟨v0, d0, f0⟩ := hro1 (k * 5) (by omega)
      obtain ⟨v1, d1, f1⟩ := hro1 (k * 5 + 1) (by omega)
      obtain ⟨v2, d2, f2⟩ := hro1 (k * 5 + 2) (by omega)
      obtain ⟨v3, d3, f3⟩ := hro1 (k * 5 + 3) (by omega)
      obtain ⟨v4, d4, f4⟩ := hro1 (k * 5 + 4) (by omega)
      clear hro hdo hsk hbl
      have K2 : Hid (Room w1 w.heap.size (n * 5) ∧ NotesAt w1 w.heap.size 0 (xs.take k)) := ⟨hro1, hdo1⟩
      clear hro1 hdo1
      go_wp2
      obtain ⟨hro, hdo, hsk, hbl⟩ := K.out
      obtain ⟨hro1, hdo1⟩ := K2.out
      have hbl1 := hbl.trans (b1.mono (Nat.le_of_lt hsz))
      refine ⟨⟨k + 1, by omega, by simp, ((((hbl1.setCell (p := ⟨w.heap.size, k * 5, none⟩) (Nat.le_refl _) _).setCell (p := ⟨w.heap.size, k * 5 + 1, none⟩) (Nat.le_refl _) _).setCell (p := ⟨w.heap.size, k * 5 + 2, none⟩) (Nat.le_refl _) _).setCell (p := ⟨w.heap.size, k * 5 + 3, none⟩) (Nat.le_refl _) _).setCell (p := ⟨w.heap.size, k * 5 + 4, none⟩) (Nat.le_refl _) _,
        by have := b1.size; simp [World.setCell]; omega, ((((hro1.set _).set _).set _).set _).set _, hdo1.put hsk hro1 (by omega)⟩, by simp [intOf]; omega⟩
    · have : k = n := by omega
      subst this
      have hd : decide (k < k) = false := by simp
      go_wp2
      go_ret
      refine ⟨rfl, hbl, hsz, ?_, hro⟩
      rw [← hx, List.take_length] at hdo
      exact hdo
theorem toNoteS_anyR (w : World) (a : Option Addr) (n cap : Nat) (xs : List N5) (hn : n ≤ 1048576) (hs : SlNo w w.heap.size a n xs) : Calls Tryz.prog 108 #[.slice a n cap] w fun e w' =>
    e = .returned (.slice (some ⟨w.heap.size, 0, none⟩) n n) ∧ Below w.heap.size w w' ∧ w.heap.size < w'.heap.size ∧ NotesAt w' w.heap.size 0 xs ∧ Room w' w.heap.size (n * 5) := by
  obtain ⟨h1, h2⟩ := hs
  rcases h2 with rfl | ⟨b, off, rfl, hb, hx⟩
  · refine (toNoteS_none w a cap).mono ?_
    rintro e w' ⟨rfl, h, h'⟩
    exact ⟨rfl, h, h', (fun i s e => by rw [List.eq_nil_of_length_eq_zero h1] at e; simp at e), fun j hj => by omega⟩
  · exact toNoteS_someR w b off n cap xs h1 hn hb hx
theorem szNoteS_l (w : World) (a : Option Addr) (n cap : Nat) (l : Nat) (hn : n ≤ maxLen) (hl : l ≤ 1048576) : Calls Tryz.prog 94 #[.slice a n cap, .int .i64 (l : Int)] w fun e w' => e = .returned (.int .i64 (leftR l n)) ∧ w' = w := by
  unfold maxLen at hn
  by_cases h : n ≤ l
  · rw [leftR_yes h]
    have d0 : decide ((l : Int) - (n : Int) < 0) = false := by simp; omega
    go_enter Tryz.func94, Tryz.ntmps94
    go_wp2
    go_ret
    have e : ((l - n : Nat) : Int) = (l : Int) - (n : Int) := by omega
    exact ⟨by rw [e]; rfl, rfl⟩
  · rw [leftR_no h]
    have d0 : decide ((l : Int) - (n : Int) < 0) = true := by simp; omega
    go_enter Tryz.func94, Tryz.ntmps94
    go_wp2
    go_ret
    exact ⟨rfl, rfl⟩
theorem NoteAt.regrown {w : World} {b o : Nat} {s : N5} (h : NoteAt w b o s) (d : Nat) (os : Array Obj) : NoteAt (grow (redrawn w d) os) b o s :=
  ⟨cell_regrown h.c0 d os, cell_regrown h.c1 d os, cell_regrown h.c2 d os, cell_regrown h.c3 d os, cell_regrown h.c4 d os⟩
set_option maxHeartbeats 1000000 in
theorem eqNote_same (w : World) (s : N5) : Calls Tryz.prog 169 #[.agg #[.int .i64 s.region, .int .i64 s.slot, .int .i64 s.version, .int .i64 s.value, .bool s.used], .agg #[.int .i64 s.region, .int .i64 s.slot, .int .i64 s.version, .int .i64 s.value, .bool s.used]] w fun e w' =>
    e = .returned (.bool true) ∧ Below w.heap.size w w' := by
  obtain ⟨r, l, v, u, x⟩ := s
  go_enter Tryz.func169, Tryz.ntmps169
  go_wp2
  go_ret
  exact ⟨rfl, ((Below.refl _ _).alloc (Nat.le_refl _) _).alloc (by simp) _⟩
set_option maxHeartbeats 1000000 in
theorem eqNoteS_some (w : World) (b off cap b' off' cap' n : Nat) (xs : List N5) (hx : xs.length = n) (hn : n ≤ maxLen) (h1 : NotesAt w b off xs) (hb : b < w.heap.size) (h2 : NotesAt w b' off' xs) (hb' : b' < w.heap.size) :
    Calls Tryz.prog 129 #[.slice (some ⟨b, off, none⟩) n cap, .slice (some ⟨b', off', none⟩) n cap'] w fun e w' => e = .returned (.bool true) ∧ Below w.heap.size w w' := by
  unfold maxLen at hn
  go_enter Tryz.func129, Tryz.ntmps129
  go_wp2
  go_loopw [5] (fun i wr => ∃ k : Nat, k ≤ n ∧ i = .int .i64 k ∧ Below w.heap.size w wr) (fun i _ => n - (intOf i).toNat)
  case atStart => exact ⟨0, Nat.zero_le _, rfl, Below.refl _ _⟩
  case round =>
    obtain ⟨k, hk, rfl, hbl⟩ := hrel
    by_cases hlt : k < n
    · obtain ⟨s, hsk⟩ : ∃ s, xs[k]? = some s := ⟨xs[k]'(by omega), by simp⟩
      have t1 := (((h1 k s hsk).below hbl hb).regrown)
      have t2 := (((h2 k s hsk).below hbl hb').regrown)
      have c0 := fun d os => (t1 d os).c0
      have c1 := fun d os => (t1 d os).c1
      have c2 := fun d os => (t1 d os).c2
      have c3 := fun d os => (t1 d os).c3
      have c4 := fun d os => (t1 d os).c4
      have e0 := fun d os => (t2 d os).c0
      have e1 := fun d os => (t2 d os).c1
      have e2 := fun d os => (t2 d os).c2
      have e3 := fun d os => (t2 d os).c3
      have e4 := fun d os => (t2 d os).c4
      have cQ : ∀ d os, Calls Tryz.prog 169 #[.agg #[.int .i64 s.region, .int .i64 s.slot, .int .i64 s.version, .int .i64 s.value, .bool s.used], .agg #[.int .i64 s.region, .int .i64 s.slot, .int .i64 s.version, .int .i64 s.value, .bool s.used]] (grow (redrawn wr d) os) fun e w'' => e = .returned (.bool true) ∧ ∃ p : Regrown, w'' = grow (redrawn wr p.d) p.os := fun d os => Calls.regrown_of (eqNote_same _ s)
      have K : Hid (Below w.heap.size w wr) := hbl
      clear t1 t2 hbl hsk h1 h2
      go_wp2_with fail
      refine wp_region_quiet_below (by kernel_rfl) (by kernel_rfl) ?_
      repeat (quiet_step (exact cQ _ _))
      refine wpQuiet_nil ?_
      intro _ hw'
      obtain ⟨⟨dq, osq⟩, hw''⟩ := hw'
      subst hw''
      have bq := below_regrown wr dq osq
      go_wp2
      exact ⟨⟨k + 1, by omega, by simp, K.out.trans (bq.mono K.out.size)⟩, by simp [intOf]; omega⟩
    · have : k = n := by omega
      subst this
      have hd : decide (k < k) = false := by simp
      go_wp2
      go_ret
      exact ⟨rfl, hbl⟩
theorem eqNoteS_none (w : World) (a a' : Option Addr) (cap cap' : Nat) : Calls Tryz.prog 129 #[.slice a 0 cap, .slice a' 0 cap'] w fun e w' => e = .returned (.bool true) ∧ Below w.heap.size w w' := by
  go_enter Tryz.func129, Tryz.ntmps129
  go_wp2
  go_loopw [5] (fun i wr => i = .int .i64 0 ∧ Below w.heap.size w wr) (fun _ _ => 0)
  case atStart => exact ⟨rfl, Below.refl _ _⟩
  case round =>
    obtain ⟨rfl, hbl⟩ := hrel
    go_wp2
    go_ret
    exact ⟨rfl, hbl⟩
theorem eqNoteS_any (w : World) (a a' : Option Addr) (n cap cap' : Nat) (xs : List N5) (hn : n ≤ maxLen) (h1 : SlNo w w.heap.size a n xs) (h2 : SlNo w w.heap.size a' n xs) :
    Calls Tryz.prog 129 #[.slice a n cap, .slice a' n cap'] w fun e w' => e = .returned (.bool true) ∧ Below w.heap.size w w' := by
  obtain ⟨hx, h1⟩ := h1
  obtain ⟨_, h2⟩ := h2
  rcases h1 with rfl | ⟨b, off, rfl, hb, h1⟩
  · exact eqNoteS_none w a a' cap cap'
  · rcases h2 with rfl | ⟨b', off', rfl, hb', h2⟩
    · exact eqNoteS_none w _ a' cap cap'
    · exact eqNoteS_some w b off cap b' off' cap' n xs hx hn h1 hb h2 hb'
def mkNote (k : Int) (j : Nat) : N5 := ⟨k + 5 * (j : Int), k + 5 * (j : Int) + 1, k + 5 * (j : Int) + 1 + 1, k + 5 * (j : Int) + 1 + 1 + 1, (k + 5 * (j : Int) + 1 + 1 + 1 + 1) % 3 == 0⟩
def mkNotes (k : Int) (n : Nat) : List N5 := (List.range n).map (mkNote k)
end Go.Proofs.YtdmpobegobfpjaaGreat.tx
namespace Go.Proofs.YtdmpobegobfpjaaGreat.tx
open Go.RowKit
structure T7 where
  id : Int
  home : Int
  phase : Int
  count : Int
  reads : List N5
  sets : List S5
  stamp : Int
structure TV where
  ar : Option Addr
  cr : Nat
  ah : Option Addr
  ch : Nat
def TV.val (v : TV) (t : T7) : Value := .agg #[.int .i64 t.id, .int .i64 t.home, .int .i64 t.phase, .int .i64 t.count, .slice v.ar t.reads.length v.cr, .slice v.ah t.sets.length v.ch, .int .i64 t.stamp]
theorem Sl.later {w w' : World} {a : Option Addr} {n : Nat} {xs : List S5} (h : Sl w w.heap.size a n xs) (hb : Below w.heap.size w w') : Sl w' w'.heap.size a n xs := (h.below hb).mono hb.size
theorem SlNo.later {w w' : World} {a : Option Addr} {n : Nat} {xs : List N5} (h : SlNo w w.heap.size a n xs) (hb : Below w.heap.size w w') : SlNo w' w'.heap.size a n xs := (h.below hb).mono hb.size
structure SlT (w : World) (v : TV) (t : T7) : Prop where
  r : SlNo w w.heap.size v.ar t.reads.length t.reads
  s : Sl w w.heap.size v.ah t.sets.length t.sets
theorem SlT.later {w w' : World} {v : TV} {t : T7} (h : SlT w v t) (hb : Below w.heap.size w w') : SlT w' v t := ⟨h.r.later hb, h.s.later hb⟩
structure TL (t : T7) : Prop where
  r : t.reads.length ≤ maxLen
  s : t.sets.length ≤ maxLen
def OwnNo (w : World) (P : Nat → Prop) (a : Option Addr) (xs : List N5) : Prop := xs = [] ∨ ∃ b, a = some ⟨b, 0, none⟩ ∧ P b ∧ b < w.heap.size ∧ NotesAt w b 0 xs ∧ Room w b (xs.length * 5)
def OwnSe (w : World) (P : Nat → Prop) (a : Option Addr) (xs : List S5) : Prop := xs = [] ∨ ∃ b, a = some ⟨b, 0, none⟩ ∧ P b ∧ b < w.heap.size ∧ SetsAt w b 0 xs ∧ Room w b (xs.length * 5)
theorem OwnNo.keep {w w' : World} {P : Nat → Prop} {a : Option Addr} {xs : List N5} (h : OwnNo w P a xs) (hs : w.heap.size ≤ w'.heap.size) (hk : ∀ q, q < w.heap.size → P q → w'.heap[q]? = w.heap[q]?) : OwnNo w' P a xs := by
  rcases h with h | ⟨b, ha, hp, hl, hn, hr⟩
  · exact .inl h
  · exact .inr ⟨b, ha, hp, Nat.lt_of_lt_of_le hl hs, hn.of_block (hk b hl hp), hr.of_block (hk b hl hp)⟩
theorem OwnSe.keep {w w' : World} {P : Nat → Prop} {a : Option Addr} {xs : List S5} (h : OwnSe w P a xs) (hs : w.heap.size ≤ w'.heap.size) (hk : ∀ q, q < w.heap.size → P q → w'.heap[q]? = w.heap[q]?) : OwnSe w' P a xs := by
  rcases h with h | ⟨b, ha, hp, hl, hn, hr⟩
  · exact .inl h
  · exact .inr ⟨b, ha, hp, Nat.lt_of_lt_of_le hl hs, hn.of_block (hk b hl hp), hr.of_block (hk b hl hp)⟩
theorem OwnNo.mono {w : World} {P Q : Nat → Prop} {a : Option Addr} {xs : List N5} (h : OwnNo w P a xs) (hp : ∀ q, q < w.heap.size → P q → Q q) : OwnNo w Q a xs := by
  rcases h with h | ⟨b, ha, hb, hl, hn, hr⟩
  · exact .inl h
  · exact .inr ⟨b, ha, hp b hl hb, hl, hn, hr⟩
theorem OwnSe.mono {w : World} {P Q : Nat → Prop} {a : Option Addr} {xs : List S5} (h : OwnSe w P a xs) (hp : ∀ q, q < w.heap.size → P q → Q q) : OwnSe w Q a xs := by
  rcases h with h | ⟨b, ha, hb, hl, hn, hr⟩
  · exact .inl h
  · exact .inr ⟨b, ha, hp b hl hb, hl, hn, hr⟩
theorem OwnNo.sl {w : World} {P : Nat → Prop} {a : Option Addr} {xs : List N5} (h : OwnNo w P a xs) : SlNo w w.heap.size a xs.length xs := by
  rcases h with e | ⟨b, ha, _, hl, hn, _⟩
  · exact ⟨rfl, .inl (by rw [e]; rfl)⟩
  · exact ⟨rfl, .inr ⟨b, 0, ha, hl, hn⟩⟩
theorem OwnSe.sl {w : World} {P : Nat → Prop} {a : Option Addr} {xs : List S5} (h : OwnSe w P a xs) : Sl w w.heap.size a xs.length xs := by
  rcases h with e | ⟨b, ha, _, hl, hn, _⟩
  · exact ⟨rfl, .inl (by rw [e]; rfl)⟩
  · exact ⟨rfl, .inr ⟨b, 0, ha, hl, hn⟩⟩
structure OT (w : World) (B : Nat) (v : TV) (t : T7) (PR PS : Nat → Prop) : Prop where
  r : OwnNo w PR v.ar t.reads
  s : OwnSe w PS v.ah t.sets
  rs : ∀ q, PR q → ¬ PS q
  rB : ∀ q, PR q → B ≤ q ∧ q < w.heap.size
  sB : ∀ q, PS q → B ≤ q ∧ q < w.heap.size
def OfT (PR PS : Nat → Prop) (q : Nat) : Prop := PR q ∨ PS q
theorem OT.of {w : World} {B : Nat} {v : TV} {t : T7} {PR PS : Nat → Prop} (h : OT w B v t PR PS) {q : Nat} (hq : OfT PR PS q) : B ≤ q ∧ q < w.heap.size := hq.elim (h.rB q) (h.sB q)
theorem OT.sl {w : World} {B : Nat} {v : TV} {t : T7} {PR PS : Nat → Prop} (h : OT w B v t PR PS) : SlT w v t := ⟨h.r.sl, h.s.sl⟩
theorem OT.keep {w w' : World} {B : Nat} {v : TV} {t : T7} {PR PS : Nat → Prop} (h : OT w B v t PR PS) (hs : w.heap.size ≤ w'.heap.size) (hk : ∀ q, q < w.heap.size → OfT PR PS q → w'.heap[q]? = w.heap[q]?) : OT w' B v t PR PS :=
  ⟨h.r.keep hs (fun q hq hp => hk q hq (.inl hp)), h.s.keep hs (fun q hq hp => hk q hq (.inr hp)), h.rs, fun q hq => ⟨(h.rB q hq).1, Nat.lt_of_lt_of_le (h.rB q hq).2 hs⟩, fun q hq => ⟨(h.sB q hq).1, Nat.lt_of_lt_of_le (h.sB q hq).2 hs⟩⟩
theorem OT.later {w w' : World} {B : Nat} {v : TV} {t : T7} {PR PS : Nat → Prop} (h : OT w B v t PR PS) (hb : Below w.heap.size w w') : OT w' B v t PR PS := h.keep hb.size (fun q hq _ => hb.block q hq)
theorem OT.mono {w : World} {B B' : Nat} {v : TV} {t : T7} {PR PS : Nat → Prop} (h : OT w B v t PR PS) (hb : B' ≤ B) : OT w B' v t PR PS := ⟨h.r, h.s, h.rs, fun q hq => ⟨Nat.le_trans hb (h.rB q hq).1, (h.rB q hq).2⟩, fun q hq => ⟨Nat.le_trans hb (h.sB q hq).1, (h.sB q hq).2⟩⟩
structure BT (X : World) (s : Nat) (v : TV) (t : T7) : Prop where
  c0 : X.cell? ⟨s, 0, none⟩ = some (.int .i64 t.id)
  c1 : X.cell? ⟨s, 1, none⟩ = some (.int .i64 t.home)
  c2 : X.cell? ⟨s, 2, none⟩ = some (.int .i64 t.phase)
  c3 : X.cell? ⟨s, 3, none⟩ = some (.int .i64 t.count)
  c4 : X.cell? ⟨s, 4, none⟩ = some (.slice v.ar t.reads.length v.cr)
  c5 : X.cell? ⟨s, 5, none⟩ = some (.slice v.ah t.sets.length v.ch)
  c6 : X.cell? ⟨s, 6, none⟩ = some (.int .i64 t.stamp)
  fz : ∀ j, X.frozen? ⟨s, j, none⟩ = false
  lt : s < X.heap.size
theorem BT.of_block {X Y : World} {s : Nat} {v : TV} {t : T7} (h : BT X s v t) (hb : Y.heap[s]? = X.heap[s]?) (hs : X.heap.size ≤ Y.heap.size) : BT Y s v t := by
  have c : ∀ {j : Nat} {u : Value}, X.cell? ⟨s, j, none⟩ = some u → Y.cell? ⟨s, j, none⟩ = some u := fun {j u} h => (World.cell?_of_block (a := ⟨s, j, none⟩) hb).trans h
  exact ⟨c h.c0, c h.c1, c h.c2, c h.c3, c h.c4, c h.c5, c h.c6, fun j => (World.frozen?_of_block (a := ⟨s, j, none⟩) hb).trans (h.fz j), Nat.lt_of_lt_of_le h.lt hs⟩
theorem BT.later {X Y : World} {s : Nat} {v : TV} {t : T7} (h : BT X s v t) (hb : Below X.heap.size X Y) : BT Y s v t := h.of_block (hb.block _ h.lt) hb.size
theorem BT.box (X : World) (v : TV) (t : T7) (T : TypeId) : BT (X.alloc (.cells #[.int .i64 t.id, .int .i64 t.home, .int .i64 t.phase, .int .i64 t.count, .slice v.ar t.reads.length v.cr, .slice v.ah t.sets.length v.ch, .int .i64 t.stamp] T)) X.heap.size v t := by
  refine ⟨by go_simp, by go_simp, by go_simp, by go_simp, by go_simp, by go_simp, by go_simp, fun j => by go_simp, by simp⟩
theorem BT.zero (X : World) (T : TypeId) : BT (X.alloc (.cells #[.int .i64 0, .int .i64 0, .int .i64 0, .int .i64 0, .slice none 0 0, .slice none 0 0, .int .i64 0] T)) X.heap.size ⟨none, 0, none, 0⟩ ⟨0, 0, 0, 0, [], [], 0⟩ := BT.box X ⟨none, 0, none, 0⟩ ⟨0, 0, 0, 0, [], [], 0⟩ T
def szT (t : T7) : Nat := t.reads.length + t.sets.length
theorem BT.far {X : World} {s : Nat} {v : TV} {t : T7} (h : BT X s v t) {p : Addr} (hp : p.block ≠ s) (u : Value) : BT (X.setCell p u) s v t := h.of_block (Below.heap_setCell _ _ _ _ (fun e => hp e.symm)) (by simp [World.setCell])
theorem BT.set0 {X : World} {s : Nat} {v : TV} {t : T7} (h : BT X s v t) (z : Int) : BT (X.setCell ⟨s, 0, none⟩ (.int .i64 z)) s v ⟨z, t.home, t.phase, t.count, t.reads, t.sets, t.stamp⟩ := ⟨cell_set_same h.c0, (cell_set_other (by omega)).trans h.c1, (cell_set_other (by omega)).trans h.c2, (cell_set_other (by omega)).trans h.c3, (cell_set_other (by omega)).trans h.c4, (cell_set_other (by omega)).trans h.c5, (cell_set_other (by omega)).trans h.c6, fun j => by rw [World.frozen?_setCell]; exact h.fz j, by simpa [World.setCell] using h.lt⟩
theorem BT.set1 {X : World} {s : Nat} {v : TV} {t : T7} (h : BT X s v t) (z : Int) : BT (X.setCell ⟨s, 1, none⟩ (.int .i64 z)) s v ⟨t.id, z, t.phase, t.count, t.reads, t.sets, t.stamp⟩ := ⟨(cell_set_other (by omega)).trans h.c0, cell_set_same h.c1, (cell_set_other (by omega)).trans h.c2, (cell_set_other (by omega)).trans h.c3, (cell_set_other (by omega)).trans h.c4, (cell_set_other (by omega)).trans h.c5, (cell_set_other (by omega)).trans h.c6, fun j => by rw [World.frozen?_setCell]; exact h.fz j, by simpa [World.setCell] using h.lt⟩
theorem BT.set2 {X : World} {s : Nat} {v : TV} {t : T7} (h : BT X s v t) (z : Int) : BT (X.setCell ⟨s, 2, none⟩ (.int .i64 z)) s v ⟨t.id, t.home, z, t.count, t.reads, t.sets, t.stamp⟩ := ⟨(cell_set_other (by omega)).trans h.c0, (cell_set_other (by omega)).trans h.c1, cell_set_same h.c2, (cell_set_other (by omega)).trans h.c3, (cell_set_other (by omega)).trans h.c4, (cell_set_other (by omega)).trans h.c5, (cell_set_other (by omega)).trans h.c6, fun j => by rw [World.frozen?_setCell]; exact h.fz j, by simpa [World.setCell] using h.lt⟩
theorem BT.set3 {X : World} {s : Nat} {v : TV} {t : T7} (h : BT X s v t) (z : Int) : BT (X.setCell ⟨s, 3, none⟩ (.int .i64 z)) s v ⟨t.id, t.home, t.phase, z, t.reads, t.sets, t.stamp⟩ := ⟨(cell_set_other (by omega)).trans h.c0, (cell_set_other (by omega)).trans h.c1, (cell_set_other (by omega)).trans h.c2, cell_set_same h.c3, (cell_set_other (by omega)).trans h.c4, (cell_set_other (by omega)).trans h.c5, (cell_set_other (by omega)).trans h.c6, fun j => by rw [World.frozen?_setCell]; exact h.fz j, by simpa [World.setCell] using h.lt⟩
theorem BT.set4 {X : World} {s : Nat} {v : TV} {t : T7} (h : BT X s v t) (a : Option Addr) (c : Nat) (xs : List N5) : BT (X.setCell ⟨s, 4, none⟩ (.slice a xs.length c)) s ⟨a, c, v.ah, v.ch⟩ ⟨t.id, t.home, t.phase, t.count, xs, t.sets, t.stamp⟩ := ⟨(cell_set_other (by omega)).trans h.c0, (cell_set_other (by omega)).trans h.c1, (cell_set_other (by omega)).trans h.c2, (cell_set_other (by omega)).trans h.c3, cell_set_same h.c4, (cell_set_other (by omega)).trans h.c5, (cell_set_other (by omega)).trans h.c6, fun j => by rw [World.frozen?_setCell]; exact h.fz j, by simpa [World.setCell] using h.lt⟩
theorem BT.set5 {X : World} {s : Nat} {v : TV} {t : T7} (h : BT X s v t) (a : Option Addr) (c : Nat) (xs : List S5) : BT (X.setCell ⟨s, 5, none⟩ (.slice a xs.length c)) s ⟨v.ar, v.cr, a, c⟩ ⟨t.id, t.home, t.phase, t.count, t.reads, xs, t.stamp⟩ := ⟨(cell_set_other (by omega)).trans h.c0, (cell_set_other (by omega)).trans h.c1, (cell_set_other (by omega)).trans h.c2, (cell_set_other (by omega)).trans h.c3, (cell_set_other (by omega)).trans h.c4, cell_set_same h.c5, (cell_set_other (by omega)).trans h.c6, fun j => by rw [World.frozen?_setCell]; exact h.fz j, by simpa [World.setCell] using h.lt⟩
theorem BT.set6 {X : World} {s : Nat} {v : TV} {t : T7} (h : BT X s v t) (z : Int) : BT (X.setCell ⟨s, 6, none⟩ (.int .i64 z)) s v ⟨t.id, t.home, t.phase, t.count, t.reads, t.sets, z⟩ := ⟨(cell_set_other (by omega)).trans h.c0, (cell_set_other (by omega)).trans h.c1, (cell_set_other (by omega)).trans h.c2, (cell_set_other (by omega)).trans h.c3, (cell_set_other (by omega)).trans h.c4, (cell_set_other (by omega)).trans h.c5, cell_set_same h.c6, fun j => by rw [World.frozen?_setCell]; exact h.fz j, by simpa [World.setCell] using h.lt⟩
def putT (X : World) (s : Nat) (v : TV) (t : T7) : World := ((((((X.setCell ⟨s, 0, none⟩ (.int .i64 t.id)).setCell ⟨s, 1, none⟩ (.int .i64 t.home)).setCell ⟨s, 2, none⟩ (.int .i64 t.phase)).setCell ⟨s, 3, none⟩ (.int .i64 t.count)).setCell ⟨s, 4, none⟩ (.slice v.ar t.reads.length v.cr)).setCell ⟨s, 5, none⟩ (.slice v.ah t.sets.length v.ch)).setCell ⟨s, 6, none⟩ (.int .i64 t.stamp)
theorem BT.put {X : World} {s : Nat} {v0 : TV} {t0 : T7} (h : BT X s v0 t0) (v : TV) (t : T7) : BT (putT X s v t) s v t := ((((((h.set0 t.id).set1 t.home).set2 t.phase).set3 t.count).set4 v.ar v.cr t.reads).set5 v.ah v.ch t.sets).set6 t.stamp
theorem putT_size (X : World) (s : Nat) (v : TV) (t : T7) : (putT X s v t).heap.size = X.heap.size := by simp [putT, World.setCell]
theorem putT_block {X : World} {s : Nat} {v : TV} {t : T7} {q : Nat} (hq : q ≠ s) : (putT X s v t).heap[q]? = X.heap[q]? := by
  unfold putT
  exact (Below.heap_setCell _ _ _ _ hq).trans ((Below.heap_setCell _ _ _ _ hq).trans ((Below.heap_setCell _ _ _ _ hq).trans ((Below.heap_setCell _ _ _ _ hq).trans ((Below.heap_setCell _ _ _ _ hq).trans ((Below.heap_setCell _ _ _ _ hq).trans (Below.heap_setCell _ _ _ _ hq))))))
theorem putT_below {B : Nat} {w X : World} {s : Nat} {v : TV} {t : T7} (h : Below B w X) (hs : B ≤ s) : Below B w (putT X s v t) := by
  unfold putT
  exact ((((((h.setCell (p := ⟨s, 0, none⟩) hs _).setCell (p := ⟨s, 1, none⟩) hs _).setCell (p := ⟨s, 2, none⟩) hs _).setCell (p := ⟨s, 3, none⟩) hs _).setCell (p := ⟨s, 4, none⟩) hs _).setCell (p := ⟨s, 5, none⟩) hs _).setCell (p := ⟨s, 6, none⟩) hs _
theorem OT.put {X : World} {B s : Nat} {v v' : TV} {t t' : T7} {PR PS : Nat → Prop} (h : OT X B v t PR PS) (hs : s < B) : OT (putT X s v' t') B v t PR PS := h.keep (by rw [putT_size]; exact Nat.le_refl _) (fun q _ hq => putT_block (by have := (h.of hq).1; omega))
def arrT (v : TV) (t : T7) : Array Value := #[.int .i64 t.id, .int .i64 t.home, .int .i64 t.phase, .int .i64 t.count, .slice v.ar t.reads.length v.cr, .slice v.ah t.sets.length v.ch, .int .i64 t.stamp]
end Go.Proofs.YtdmpobegobfpjaaGreat.tx
namespace Go.Proofs.YtdmpobegobfpjaaGreat.tx
open Go.RowKit
open Go.Sort (grow)
theorem specId_e (w : World) (x : Int) : Calls Tryz.prog 53 #[.int .i64 x] w fun e w' => e = .returned (.bool (inB 1 1000000 x)) ∧ w' = w := by
  go_enter Tryz.func53, Tryz.ntmps53
  go_wp2_with (go_at_call 43; refine (specIn _ _ _ _).mono ?_; rintro e w' ⟨rfl, rfl⟩)
  go_ret
  exact ⟨rfl, rfl⟩
theorem specMachine_e (w : World) (x : Int) : Calls Tryz.prog 96 #[.int .i64 x] w fun e w' => e = .returned (.bool (inB 0 7 x)) ∧ w' = w := by
  go_enter Tryz.func96, Tryz.ntmps96
  go_wp2_with (go_at_call 43; refine (specIn _ _ _ _).mono ?_; rintro e w' ⟨rfl, rfl⟩)
  go_ret
  exact ⟨rfl, rfl⟩
theorem specVersion_e (w : World) (x : Int) : Calls Tryz.prog 150 #[.int .i64 x] w fun e w' => e = .returned (.bool (inB 0 1000000 x)) ∧ w' = w := by
  go_enter Tryz.func150, Tryz.ntmps150
  go_wp2_with (go_at_call 43; refine (specIn _ _ _ _).mono ?_; rintro e w' ⟨rfl, rfl⟩)
  go_ret
  exact ⟨rfl, rfl⟩
def noteOkB (n : N5) : Bool := inB 0 5 n.region && inB 0 5 n.slot && inB 0 1000000 n.version && inB (-1000000000) 1000000000 n.value
theorem specNote (w : World) (s : N5) : Calls Tryz.prog 102 #[.agg #[.int .i64 s.region, .int .i64 s.slot, .int .i64 s.version, .int .i64 s.value, .bool s.used]] w fun e w' => e = .returned (.bool (noteOkB s)) ∧ Below w.heap.size w w' := by
  obtain ⟨r, l, v, u, x⟩ := s
  go_enter Tryz.func102, Tryz.ntmps102
  cases h1 : inB 0 5 r <;> cases h2 : inB 0 5 l <;> cases h3 : inB 0 1000000 v
  all_goals go_wp2_with (first | (go_at_call 150; refine (specVersion_e _ _).mono ?_; rintro e w' ⟨rfl, rfl⟩) | (go_at_call 99; refine (specRegion _ _).mono ?_; rintro e w' ⟨rfl, rfl⟩) | (go_at_call 149; refine (specSlot _ _).mono ?_; rintro e w' ⟨rfl, rfl⟩) | (go_at_call 147; refine (specValue _ _).mono ?_; rintro e w' ⟨rfl, rfl⟩))
  all_goals (go_ret; refine ⟨ret_bool ?_, (Below.refl _ _).alloc (Nat.le_refl _) _⟩; simp only [noteOkB, h1, h2, h3, Bool.and_true, Bool.and_false, Bool.false_and, Bool.true_and]; try simp [inB_iff]; try omega)
def lessB (r s q t : Int) : Bool := decide (r < q) || (decide (r = q) && decide (s < t))
theorem specLess (w : World) (r s q t : Int) : Calls Tryz.prog 103 #[.int .i64 r, .int .i64 s, .int .i64 q, .int .i64 t] w fun e w' => e = .returned (.bool (lessB r s q t)) ∧ Below w.heap.size w w' := by
  go_enter Tryz.func103, Tryz.ntmps103
  go_wp2
  all_goals (go_ret; refine ⟨ret_bool ?_, Below.refl _ _⟩; simp [lessB]; try omega)
def atNo (xs : List N5) (i : Nat) : N5 := xs[i]?.getD ⟨0, 0, 0, 0, false⟩
theorem atNo_of {xs : List N5} {i : Nat} (h : i < xs.length) : xs[i]? = some (atNo xs i) := by simp [atNo, List.getElem?_eq_getElem h]
def atSe (xs : List S5) (i : Nat) : S5 := xs[i]?.getD ⟨0, 0, 0, false, 0⟩
theorem atSe_of {xs : List S5} {i : Nat} (h : i < xs.length) : xs[i]? = some (atSe xs i) := by simp [atSe, List.getElem?_eq_getElem h]
def noAt (xs : List N5) (i : Nat) : Bool := noteOkB (atNo xs i) && (decide (i = 0) || lessB (atNo xs (i - 1)).region (atNo xs (i - 1)).slot (atNo xs i).region (atNo xs i).slot)
def seAt (xs : List S5) (i : Nat) : Bool := setOkB (atSe xs i) && (decide (i = 0) || lessB (atSe xs (i - 1)).region (atSe xs (i - 1)).slot (atSe xs i).region (atSe xs i).slot)
def headB (t : T7) : Bool := inB 1 1000000 t.id && inB 0 7 t.home && inB 1 9 t.phase && inB 0 1000 t.count && inB 0 1000000 t.stamp
def txB (t : T7) : Bool := headB t && decide (t.reads.length ≤ 12) && decide (t.sets.length ≤ 12) && (List.range t.reads.length).all (noAt t.reads) && (List.range t.sets.length).all (seAt t.sets)
theorem alls_step {f : Nat → Bool} {k : Nat} (h : (List.range k).all f = true) (h' : f k = true) : (List.range (k + 1)).all f = true := by
  rw [List.range_succ, List.all_append, h]; simp [h']
theorem alls_fail {f : Nat → Bool} {k n : Nat} (hk : k < n) (h : f k = false) : (List.range n).all f = false := by
  rw [List.all_eq_false]; exact ⟨k, List.mem_range.2 hk, by simp [h]⟩
theorem no_bad {xs : List N5} {k : Nat} (h : noteOkB (atNo xs k) = false) : noAt xs k = false := by simp [noAt, h]
theorem no_low {xs : List N5} {j : Nat} (h : lessB (atNo xs j).region (atNo xs j).slot (atNo xs (j + 1)).region (atNo xs (j + 1)).slot = false) : noAt xs (j + 1) = false := by simp [noAt, h]
theorem no_first {xs : List N5} (h : noteOkB (atNo xs 0) = true) : noAt xs 0 = true := by simp [noAt, h]
theorem no_good {xs : List N5} {j : Nat} (h : noteOkB (atNo xs (j + 1)) = true) (h' : lessB (atNo xs j).region (atNo xs j).slot (atNo xs (j + 1)).region (atNo xs (j + 1)).slot = true) : noAt xs (j + 1) = true := by simp [noAt, h, h']
theorem se_bad {xs : List S5} {k : Nat} (h : setOkB (atSe xs k) = false) : seAt xs k = false := by simp [seAt, h]
theorem se_low {xs : List S5} {j : Nat} (h : lessB (atSe xs j).region (atSe xs j).slot (atSe xs (j + 1)).region (atSe xs (j + 1)).slot = false) : seAt xs (j + 1) = false := by simp [seAt, h]
theorem se_first {xs : List S5} (h : setOkB (atSe xs 0) = true) : seAt xs 0 = true := by simp [seAt, h]
theorem se_good {xs : List S5} {j : Nat} (h : setOkB (atSe xs (j + 1)) = true) (h' : lessB (atSe xs j).region (atSe xs j).slot (atSe xs (j + 1)).region (atSe xs (j + 1)).slot = true) : seAt xs (j + 1) = true := by simp [seAt, h, h']
set_option maxHeartbeats 8000000 in
theorem specTxOk_any (w : World) (v : TV) (t : T7) (hl : TL t) (hs : SlT w v t) :
    Calls Tryz.prog 57 #[v.val t] w fun e w' => e = .returned (.bool (txB t)) ∧ Below w.heap.size w w' := by
  obtain ⟨ar, cr, ah, ch⟩ := v
  simp only [TV.val]
  obtain ⟨W, hW⟩ : ∃ W, W = w.alloc (.cells #[.int .i64 t.id, .int .i64 t.home, .int .i64 t.phase, .int .i64 t.count, .slice ar t.reads.length cr, .slice ah t.sets.length ch, .int .i64 t.stamp] 55) := ⟨_, rfl⟩
  have b0 : Below w.heap.size w W := by rw [hW]; exact (Below.refl _ _).alloc (Nat.le_refl _) _
  have x0 : BT W w.heap.size ⟨ar, cr, ah, ch⟩ t := by rw [hW]; exact BT.box w ⟨ar, cr, ah, ch⟩ t _
  have H : Hid (SlT W ⟨ar, cr, ah, ch⟩ t ∧ BT W w.heap.size ⟨ar, cr, ah, ch⟩ t) := ⟨hs.later b0, x0⟩
  have BW : Hid (Below w.heap.size w W) := b0
  have hr := hl.r
  have hh := hl.s
  clear hs b0 x0 hl
  unfold maxLen at hr hh
  by_cases g0 : inB 1 1000000 t.id = true
  case neg =>
    have d0 : inB 1 1000000 t.id = false := by simpa using g0
    have hb : txB t = false := by simp [txB, headB, d0]
    rw [hb]
    rw [hW] at BW
    clear H hW
    go_enter Tryz.func57, Tryz.ntmps57
    go_wp2_with (first | (go_at_call 53; refine (specId_e _ _).mono ?_; rintro e w' ⟨rfl, rfl⟩) | (go_at_call 96; refine (specMachine_e _ _).mono ?_; rintro e w' ⟨rfl, rfl⟩) | (go_at_call 43; refine (specIn _ _ _ _).mono ?_; rintro e w' ⟨rfl, rfl⟩))
    go_ret
    exact ⟨rfl, BW.out⟩
  by_cases g1 : inB 0 7 t.home = true
  case neg =>
    have d1 : inB 0 7 t.home = false := by simpa using g1
    have hb : txB t = false := by simp [txB, headB, d1]
    rw [hb]
    rw [hW] at BW
    clear H hW
    go_enter Tryz.func57, Tryz.ntmps57
    go_wp2_with (first | (go_at_call 53; refine (specId_e _ _).mono ?_; rintro e w' ⟨rfl, rfl⟩) | (go_at_call 96; refine (specMachine_e _ _).mono ?_; rintro e w' ⟨rfl, rfl⟩) | (go_at_call 43; refine (specIn _ _ _ _).mono ?_; rintro e w' ⟨rfl, rfl⟩))
    go_ret
    exact ⟨rfl, BW.out⟩
  by_cases g2 : inB 1 9 t.phase = true
  case neg =>
    have d2 : inB 1 9 t.phase = false := by simpa using g2
    have hb : txB t = false := by simp [txB, headB, d2]
    rw [hb]
    rw [hW] at BW
    clear H hW
    go_enter Tryz.func57, Tryz.ntmps57
    go_wp2_with (first | (go_at_call 53; refine (specId_e _ _).mono ?_; rintro e w' ⟨rfl, rfl⟩) | (go_at_call 96; refine (specMachine_e _ _).mono ?_; rintro e w' ⟨rfl, rfl⟩) | (go_at_call 43; refine (specIn _ _ _ _).mono ?_; rintro e w' ⟨rfl, rfl⟩))
    go_ret
    exact ⟨rfl, BW.out⟩
  by_cases g3 : inB 0 1000 t.count = true
  case neg =>
    have d3 : inB 0 1000 t.count = false := by simpa using g3
    have hb : txB t = false := by simp [txB, headB, d3]
    rw [hb]
    rw [hW] at BW
    clear H hW
    go_enter Tryz.func57, Tryz.ntmps57
    go_wp2_with (first | (go_at_call 53; refine (specId_e _ _).mono ?_; rintro e w' ⟨rfl, rfl⟩) | (go_at_call 96; refine (specMachine_e _ _).mono ?_; rintro e w' ⟨rfl, rfl⟩) | (go_at_call 43; refine (specIn _ _ _ _).mono ?_; rintro e w' ⟨rfl, rfl⟩))
    go_ret
    exact ⟨rfl, BW.out⟩
  by_cases g4 : t.reads.length ≤ 12
  case neg =>
    have d4 : decide ((12 : Int) < (t.reads.length : Int)) = true := by simp; omega
    have hb : txB t = false := by simp [txB, g4]
    rw [hb]
    rw [hW] at BW
    clear H hW
    go_enter Tryz.func57, Tryz.ntmps57
    go_wp2_with (first | (go_at_call 53; refine (specId_e _ _).mono ?_; rintro e w' ⟨rfl, rfl⟩) | (go_at_call 96; refine (specMachine_e _ _).mono ?_; rintro e w' ⟨rfl, rfl⟩) | (go_at_call 43; refine (specIn _ _ _ _).mono ?_; rintro e w' ⟨rfl, rfl⟩))
    go_ret
    exact ⟨rfl, BW.out⟩
  have d4 : decide ((12 : Int) < (t.reads.length : Int)) = false := by simp; omega
  by_cases g5 : t.sets.length ≤ 12
  case neg =>
    have d5 : decide ((12 : Int) < (t.sets.length : Int)) = true := by simp; omega
    have hb : txB t = false := by simp [txB, g5]
    rw [hb]
    rw [hW] at BW
    clear H hW
    go_enter Tryz.func57, Tryz.ntmps57
    go_wp2_with (first | (go_at_call 53; refine (specId_e _ _).mono ?_; rintro e w' ⟨rfl, rfl⟩) | (go_at_call 96; refine (specMachine_e _ _).mono ?_; rintro e w' ⟨rfl, rfl⟩) | (go_at_call 43; refine (specIn _ _ _ _).mono ?_; rintro e w' ⟨rfl, rfl⟩))
    go_ret
    exact ⟨rfl, BW.out⟩
  have d5 : decide ((12 : Int) < (t.sets.length : Int)) = false := by simp; omega
  by_cases g6 : inB 0 1000000 t.stamp = true
  case neg =>
    have d6 : inB 0 1000000 t.stamp = false := by simpa using g6
    have hb : txB t = false := by simp [txB, headB, d6]
    rw [hb]
    rw [hW] at BW
    clear H hW
    go_enter Tryz.func57, Tryz.ntmps57
    go_wp2_with (first | (go_at_call 53; refine (specId_e _ _).mono ?_; rintro e w' ⟨rfl, rfl⟩) | (go_at_call 96; refine (specMachine_e _ _).mono ?_; rintro e w' ⟨rfl, rfl⟩) | (go_at_call 43; refine (specIn _ _ _ _).mono ?_; rintro e w' ⟨rfl, rfl⟩))
    go_ret
    exact ⟨rfl, BW.out⟩
  have HM : Hid (txB t = ((List.range t.reads.length).all (noAt t.reads) && (List.range t.sets.length).all (seAt t.sets))) := by unfold Hid; simp [txB, headB, g0, g1, g2, g3, g4, g5, g6]
  have KF : Hid (∀ V, Below W.heap.size W V → Below w.heap.size w V) := fun V h => BW.out.trans (h.mono BW.out.size)
  clear BW
  go_enter Tryz.func57, Tryz.ntmps57
  go_wp2_with (first | (go_at_call 53; refine (specId_e _ _).mono ?_; rintro e w' ⟨rfl, rfl⟩) | (go_at_call 96; refine (specMachine_e _ _).mono ?_; rintro e w' ⟨rfl, rfl⟩) | (go_at_call 43; refine (specIn _ _ _ _).mono ?_; rintro e w' ⟨rfl, rfl⟩))
  rw [← hW]
  clear hW d4 d5
  go_loopw [3] (fun v3 wr => ∃ k : Nat, k ≤ t.reads.length ∧ v3 = .int .i64 k ∧ Below W.heap.size W wr ∧ (List.range k).all (noAt t.reads) = true) (fun v3 _ => t.reads.length - (intOf v3).toNat)
  case atStart => exact ⟨0, Nat.zero_le _, rfl, Below.refl _ _, rfl⟩
  case round =>
    obtain ⟨k, hkk, rfl, hbl, hall⟩ := hrel
    have xr := H.out.2.later hbl
    have p4 := xr.c4
    have hzW := xr.lt
    have K : Hid (Below W.heap.size W wr ∧ (List.range k).all (noAt t.reads) = true) := ⟨hbl, hall⟩
    have sR := (H.out.1.later hbl).r
    clear xr hbl hall
    by_cases hlt : k < t.reads.length
    · obtain ⟨_, hsk⟩ := sR
      dsimp only at hsk
      rcases hsk with hsk | ⟨b, off, rfl, hb, h1⟩
      · omega
      obtain ⟨t0, t1, t2, t3, t4⟩ := h1 k _ (atNo_of hlt)
      cases gk : noteOkB (atNo t.reads k) with
      | false =>
        have bV : Below wr.heap.size wr (wr.alloc (.cells #[.int .i64 (atNo t.reads k).region, .int .i64 (atNo t.reads k).slot, .int .i64 (atNo t.reads k).version, .int .i64 (atNo t.reads k).value, .bool (atNo t.reads k).used] 104)) := (Below.refl _ _).alloc (Nat.le_refl _) _
        have sV : (wr.alloc (.cells #[.int .i64 (atNo t.reads k).region, .int .i64 (atNo t.reads k).slot, .int .i64 (atNo t.reads k).version, .int .i64 (atNo t.reads k).value, .bool (atNo t.reads k).used] 104)).heap.size = wr.heap.size + 1 := by simp
        have n0 : ∀ d os, (grow (redrawn (wr.alloc (.cells #[.int .i64 (atNo t.reads k).region, .int .i64 (atNo t.reads k).slot, .int .i64 (atNo t.reads k).version, .int .i64 (atNo t.reads k).value, .bool (atNo t.reads k).used] 104)) d) os).cell? ⟨wr.heap.size, 0, none⟩ = some (.int .i64 (atNo t.reads k).region) := fun d os => ((below_regrown (wr.alloc (.cells #[.int .i64 (atNo t.reads k).region, .int .i64 (atNo t.reads k).slot, .int .i64 (atNo t.reads k).version, .int .i64 (atNo t.reads k).value, .bool (atNo t.reads k).used] 104)) d os).cell (p := ⟨wr.heap.size, 0, none⟩) (by rw [sV]; simp)).trans (by go_simp)
        have n1 : ∀ d os, (grow (redrawn (wr.alloc (.cells #[.int .i64 (atNo t.reads k).region, .int .i64 (atNo t.reads k).slot, .int .i64 (atNo t.reads k).version, .int .i64 (atNo t.reads k).value, .bool (atNo t.reads k).used] 104)) d) os).cell? ⟨wr.heap.size, 1, none⟩ = some (.int .i64 (atNo t.reads k).slot) := fun d os => ((below_regrown (wr.alloc (.cells #[.int .i64 (atNo t.reads k).region, .int .i64 (atNo t.reads k).slot, .int .i64 (atNo t.reads k).version, .int .i64 (atNo t.reads k).value, .bool (atNo t.reads k).used] 104)) d os).cell (p := ⟨wr.heap.size, 1, none⟩) (by rw [sV]; simp)).trans (by go_simp)
        have n2 : ∀ d os, (grow (redrawn (wr.alloc (.cells #[.int .i64 (atNo t.reads k).region, .int .i64 (atNo t.reads k).slot, .int .i64 (atNo t.reads k).version, .int .i64 (atNo t.reads k).value, .bool (atNo t.reads k).used] 104)) d) os).cell? ⟨wr.heap.size, 2, none⟩ = some (.int .i64 (atNo t.reads k).version) := fun d os => ((below_regrown (wr.alloc (.cells #[.int .i64 (atNo t.reads k).region, .int .i64 (atNo t.reads k).slot, .int .i64 (atNo t.reads k).version, .int .i64 (atNo t.reads k).value, .bool (atNo t.reads k).used] 104)) d os).cell (p := ⟨wr.heap.size, 2, none⟩) (by rw [sV]; simp)).trans (by go_simp)
        have n3 : ∀ d os, (grow (redrawn (wr.alloc (.cells #[.int .i64 (atNo t.reads k).region, .int .i64 (atNo t.reads k).slot, .int .i64 (atNo t.reads k).version, .int .i64 (atNo t.reads k).value, .bool (atNo t.reads k).used] 104)) d) os).cell? ⟨wr.heap.size, 3, none⟩ = some (.int .i64 (atNo t.reads k).value) := fun d os => ((below_regrown (wr.alloc (.cells #[.int .i64 (atNo t.reads k).region, .int .i64 (atNo t.reads k).slot, .int .i64 (atNo t.reads k).version, .int .i64 (atNo t.reads k).value, .bool (atNo t.reads k).used] 104)) d os).cell (p := ⟨wr.heap.size, 3, none⟩) (by rw [sV]; simp)).trans (by go_simp)
        have n4 : ∀ d os, (grow (redrawn (wr.alloc (.cells #[.int .i64 (atNo t.reads k).region, .int .i64 (atNo t.reads k).slot, .int .i64 (atNo t.reads k).version, .int .i64 (atNo t.reads k).value, .bool (atNo t.reads k).used] 104)) d) os).cell? ⟨wr.heap.size, 4, none⟩ = some (.bool (atNo t.reads k).used) := fun d os => ((below_regrown (wr.alloc (.cells #[.int .i64 (atNo t.reads k).region, .int .i64 (atNo t.reads k).slot, .int .i64 (atNo t.reads k).version, .int .i64 (atNo t.reads k).value, .bool (atNo t.reads k).used] 104)) d os).cell (p := ⟨wr.heap.size, 4, none⟩) (by rw [sV]; simp)).trans (by go_simp)
        have p : ∀ d os, (grow (redrawn (wr.alloc (.cells #[.int .i64 (atNo t.reads k).region, .int .i64 (atNo t.reads k).slot, .int .i64 (atNo t.reads k).version, .int .i64 (atNo t.reads k).value, .bool (atNo t.reads k).used] 104)) d) os).cell? ⟨w.heap.size, 4, none⟩ = some (.slice (some ⟨b, off, none⟩) t.reads.length cr) := fun d os => ((below_regrown (wr.alloc (.cells #[.int .i64 (atNo t.reads k).region, .int .i64 (atNo t.reads k).slot, .int .i64 (atNo t.reads k).version, .int .i64 (atNo t.reads k).value, .bool (atNo t.reads k).used] 104)) d os).cell (p := ⟨w.heap.size, 4, none⟩) (by rw [sV]; dsimp only; omega)).trans ((bV.cell (p := ⟨w.heap.size, 4, none⟩) hzW).trans p4)
        have cN : ∀ d os, Calls Tryz.prog 102 #[.agg #[.int .i64 (atNo t.reads k).region, .int .i64 (atNo t.reads k).slot, .int .i64 (atNo t.reads k).version, .int .i64 (atNo t.reads k).value, .bool (atNo t.reads k).used]] (grow (redrawn (wr.alloc (.cells #[.int .i64 (atNo t.reads k).region, .int .i64 (atNo t.reads k).slot, .int .i64 (atNo t.reads k).version, .int .i64 (atNo t.reads k).value, .bool (atNo t.reads k).used] 104)) d) os) fun e w'' => e = .returned (.bool (noteOkB (atNo t.reads k))) ∧ ∃ p : Regrown, w'' = grow (redrawn (wr.alloc (.cells #[.int .i64 (atNo t.reads k).region, .int .i64 (atNo t.reads k).slot, .int .i64 (atNo t.reads k).version, .int .i64 (atNo t.reads k).value, .bool (atNo t.reads k).used] 104)) p.d) p.os := fun d os => Calls.regrown_of (specNote _ _)
        have KV : Hid (Below W.heap.size W (wr.alloc (.cells #[.int .i64 (atNo t.reads k).region, .int .i64 (atNo t.reads k).slot, .int .i64 (atNo t.reads k).version, .int .i64 (atNo t.reads k).value, .bool (atNo t.reads k).used] 104))) := K.out.1.trans (bV.mono K.out.1.size)
        rw [gk] at cN
        clear bV sV h1
        go_wp2_with fail
        generalize (wr.alloc (.cells #[.int .i64 (atNo t.reads k).region, .int .i64 (atNo t.reads k).slot, .int .i64 (atNo t.reads k).version, .int .i64 (atNo t.reads k).value, .bool (atNo t.reads k).used] 104)) = V at *
        refine wp_region_quiet_below (by kernel_rfl) (by kernel_rfl) ?_
        repeat (go_big_quiet_step (first | exact cN _ _))
        refine wpQuiet_nil ?_
        intro _ hw'
        obtain ⟨⟨dq, osq⟩, hw''⟩ := hw'
        subst hw''
        have bq := below_regrown V dq osq
        have KB : Hid (Below W.heap.size W (grow (redrawn V dq) osq)) := KV.out.trans (bq.mono KV.out.size)
        go_wp2
        go_ret
        exact ⟨by rw [HM.out, alls_fail hlt (no_bad gk)]; rfl, KF.out _ KB.out⟩
      | true =>
        rcases k with _ | j
        · simp only [Nat.zero_mul, Nat.add_zero] at t0 t1 t2 t3 t4
          have bV : Below wr.heap.size wr (wr.alloc (.cells #[.int .i64 (atNo t.reads 0).region, .int .i64 (atNo t.reads 0).slot, .int .i64 (atNo t.reads 0).version, .int .i64 (atNo t.reads 0).value, .bool (atNo t.reads 0).used] 104)) := (Below.refl _ _).alloc (Nat.le_refl _) _
          have sV : (wr.alloc (.cells #[.int .i64 (atNo t.reads 0).region, .int .i64 (atNo t.reads 0).slot, .int .i64 (atNo t.reads 0).version, .int .i64 (atNo t.reads 0).value, .bool (atNo t.reads 0).used] 104)).heap.size = wr.heap.size + 1 := by simp
          have n0 : ∀ d os, (grow (redrawn (wr.alloc (.cells #[.int .i64 (atNo t.reads 0).region, .int .i64 (atNo t.reads 0).slot, .int .i64 (atNo t.reads 0).version, .int .i64 (atNo t.reads 0).value, .bool (atNo t.reads 0).used] 104)) d) os).cell? ⟨wr.heap.size, 0, none⟩ = some (.int .i64 (atNo t.reads 0).region) := fun d os => ((below_regrown (wr.alloc (.cells #[.int .i64 (atNo t.reads 0).region, .int .i64 (atNo t.reads 0).slot, .int .i64 (atNo t.reads 0).version, .int .i64 (atNo t.reads 0).value, .bool (atNo t.reads 0).used] 104)) d os).cell (p := ⟨wr.heap.size, 0, none⟩) (by rw [sV]; simp)).trans (by go_simp)
          have n1 : ∀ d os, (grow (redrawn (wr.alloc (.cells #[.int .i64 (atNo t.reads 0).region, .int .i64 (atNo t.reads 0).slot, .int .i64 (atNo t.reads 0).version, .int .i64 (atNo t.reads 0).value, .bool (atNo t.reads 0).used] 104)) d) os).cell? ⟨wr.heap.size, 1, none⟩ = some (.int .i64 (atNo t.reads 0).slot) := fun d os => ((below_regrown (wr.alloc (.cells #[.int .i64 (atNo t.reads 0).region, .int .i64 (atNo t.reads 0).slot, .int .i64 (atNo t.reads 0).version, .int .i64 (atNo t.reads 0).value, .bool (atNo t.reads 0).used] 104)) d os).cell (p := ⟨wr.heap.size, 1, none⟩) (by rw [sV]; simp)).trans (by go_simp)
          have n2 : ∀ d os, (grow (redrawn (wr.alloc (.cells #[.int .i64 (atNo t.reads 0).region, .int .i64 (atNo t.reads 0).slot, .int .i64 (atNo t.reads 0).version, .int .i64 (atNo t.reads 0).value, .bool (atNo t.reads 0).used] 104)) d) os).cell? ⟨wr.heap.size, 2, none⟩ = some (.int .i64 (atNo t.reads 0).version) := fun d os => ((below_regrown (wr.alloc (.cells #[.int .i64 (atNo t.reads 0).region, .int .i64 (atNo t.reads 0).slot, .int .i64 (atNo t.reads 0).version, .int .i64 (atNo t.reads 0).value, .bool (atNo t.reads 0).used] 104)) d os).cell (p := ⟨wr.heap.size, 2, none⟩) (by rw [sV]; simp)).trans (by go_simp)
          have n3 : ∀ d os, (grow (redrawn (wr.alloc (.cells #[.int .i64 (atNo t.reads 0).region, .int .i64 (atNo t.reads 0).slot, .int .i64 (atNo t.reads 0).version, .int .i64 (atNo t.reads 0).value, .bool (atNo t.reads 0).used] 104)) d) os).cell? ⟨wr.heap.size, 3, none⟩ = some (.int .i64 (atNo t.reads 0).value) := fun d os => ((below_regrown (wr.alloc (.cells #[.int .i64 (atNo t.reads 0).region, .int .i64 (atNo t.reads 0).slot, .int .i64 (atNo t.reads 0).version, .int .i64 (atNo t.reads 0).value, .bool (atNo t.reads 0).used] 104)) d os).cell (p := ⟨wr.heap.size, 3, none⟩) (by rw [sV]; simp)).trans (by go_simp)
          have n4 : ∀ d os, (grow (redrawn (wr.alloc (.cells #[.int .i64 (atNo t.reads 0).region, .int .i64 (atNo t.reads 0).slot, .int .i64 (atNo t.reads 0).version, .int .i64 (atNo t.reads 0).value, .bool (atNo t.reads 0).used] 104)) d) os).cell? ⟨wr.heap.size, 4, none⟩ = some (.bool (atNo t.reads 0).used) := fun d os => ((below_regrown (wr.alloc (.cells #[.int .i64 (atNo t.reads 0).region, .int .i64 (atNo t.reads 0).slot, .int .i64 (atNo t.reads 0).version, .int .i64 (atNo t.reads 0).value, .bool (atNo t.reads 0).used] 104)) d os).cell (p := ⟨wr.heap.size, 4, none⟩) (by rw [sV]; simp)).trans (by go_simp)
          have p : ∀ d os, (grow (redrawn (wr.alloc (.cells #[.int .i64 (atNo t.reads 0).region, .int .i64 (atNo t.reads 0).slot, .int .i64 (atNo t.reads 0).version, .int .i64 (atNo t.reads 0).value, .bool (atNo t.reads 0).used] 104)) d) os).cell? ⟨w.heap.size, 4, none⟩ = some (.slice (some ⟨b, off, none⟩) t.reads.length cr) := fun d os => ((below_regrown (wr.alloc (.cells #[.int .i64 (atNo t.reads 0).region, .int .i64 (atNo t.reads 0).slot, .int .i64 (atNo t.reads 0).version, .int .i64 (atNo t.reads 0).value, .bool (atNo t.reads 0).used] 104)) d os).cell (p := ⟨w.heap.size, 4, none⟩) (by rw [sV]; dsimp only; omega)).trans ((bV.cell (p := ⟨w.heap.size, 4, none⟩) hzW).trans p4)
          have cN : ∀ d os, Calls Tryz.prog 102 #[.agg #[.int .i64 (atNo t.reads 0).region, .int .i64 (atNo t.reads 0).slot, .int .i64 (atNo t.reads 0).version, .int .i64 (atNo t.reads 0).value, .bool (atNo t.reads 0).used]] (grow (redrawn (wr.alloc (.cells #[.int .i64 (atNo t.reads 0).region, .int .i64 (atNo t.reads 0).slot, .int .i64 (atNo t.reads 0).version, .int .i64 (atNo t.reads 0).value, .bool (atNo t.reads 0).used] 104)) d) os) fun e w'' => e = .returned (.bool (noteOkB (atNo t.reads 0))) ∧ ∃ p : Regrown, w'' = grow (redrawn (wr.alloc (.cells #[.int .i64 (atNo t.reads 0).region, .int .i64 (atNo t.reads 0).slot, .int .i64 (atNo t.reads 0).version, .int .i64 (atNo t.reads 0).value, .bool (atNo t.reads 0).used] 104)) p.d) p.os := fun d os => Calls.regrown_of (specNote _ _)
          have KV : Hid (Below W.heap.size W (wr.alloc (.cells #[.int .i64 (atNo t.reads 0).region, .int .i64 (atNo t.reads 0).slot, .int .i64 (atNo t.reads 0).version, .int .i64 (atNo t.reads 0).value, .bool (atNo t.reads 0).used] 104))) := K.out.1.trans (bV.mono K.out.1.size)
          rw [gk] at cN
          clear bV sV h1
          go_wp2_with fail
          generalize (wr.alloc (.cells #[.int .i64 (atNo t.reads 0).region, .int .i64 (atNo t.reads 0).slot, .int .i64 (atNo t.reads 0).version, .int .i64 (atNo t.reads 0).value, .bool (atNo t.reads 0).used] 104)) = V at *
          refine wp_region_quiet_below (by kernel_rfl) (by kernel_rfl) ?_
          repeat (go_big_quiet_step (first | exact cN _ _))
          refine wpQuiet_nil ?_
          intro _ hw'
          obtain ⟨⟨dq, osq⟩, hw''⟩ := hw'
          subst hw''
          have bq := below_regrown V dq osq
          have KB : Hid (Below W.heap.size W (grow (redrawn V dq) osq)) := KV.out.trans (bq.mono KV.out.size)
          go_wp2
          exact ⟨⟨1, by omega, by simp, KB.out, alls_step K.out.2 (no_first gk)⟩, by simp [intOf]; omega⟩
        · obtain ⟨u0, u1, u2, u3, u4⟩ := h1 j _ (atNo_of (by omega))
          have hj : (j : Int) < (t.reads.length : Int) := by omega
          have bV : Below wr.heap.size wr (wr.alloc (.cells #[.int .i64 (atNo t.reads (j + 1)).region, .int .i64 (atNo t.reads (j + 1)).slot, .int .i64 (atNo t.reads (j + 1)).version, .int .i64 (atNo t.reads (j + 1)).value, .bool (atNo t.reads (j + 1)).used] 104)) := (Below.refl _ _).alloc (Nat.le_refl _) _
          have sV : (wr.alloc (.cells #[.int .i64 (atNo t.reads (j + 1)).region, .int .i64 (atNo t.reads (j + 1)).slot, .int .i64 (atNo t.reads (j + 1)).version, .int .i64 (atNo t.reads (j + 1)).value, .bool (atNo t.reads (j + 1)).used] 104)).heap.size = wr.heap.size + 1 := by simp
          have n0 : ∀ d os, (grow (redrawn (wr.alloc (.cells #[.int .i64 (atNo t.reads (j + 1)).region, .int .i64 (atNo t.reads (j + 1)).slot, .int .i64 (atNo t.reads (j + 1)).version, .int .i64 (atNo t.reads (j + 1)).value, .bool (atNo t.reads (j + 1)).used] 104)) d) os).cell? ⟨wr.heap.size, 0, none⟩ = some (.int .i64 (atNo t.reads (j + 1)).region) := fun d os => ((below_regrown (wr.alloc (.cells #[.int .i64 (atNo t.reads (j + 1)).region, .int .i64 (atNo t.reads (j + 1)).slot, .int .i64 (atNo t.reads (j + 1)).version, .int .i64 (atNo t.reads (j + 1)).value, .bool (atNo t.reads (j + 1)).used] 104)) d os).cell (p := ⟨wr.heap.size, 0, none⟩) (by rw [sV]; simp)).trans (by go_simp)
          have n1 : ∀ d os, (grow (redrawn (wr.alloc (.cells #[.int .i64 (atNo t.reads (j + 1)).region, .int .i64 (atNo t.reads (j + 1)).slot, .int .i64 (atNo t.reads (j + 1)).version, .int .i64 (atNo t.reads (j + 1)).value, .bool (atNo t.reads (j + 1)).used] 104)) d) os).cell? ⟨wr.heap.size, 1, none⟩ = some (.int .i64 (atNo t.reads (j + 1)).slot) := fun d os => ((below_regrown (wr.alloc (.cells #[.int .i64 (atNo t.reads (j + 1)).region, .int .i64 (atNo t.reads (j + 1)).slot, .int .i64 (atNo t.reads (j + 1)).version, .int .i64 (atNo t.reads (j + 1)).value, .bool (atNo t.reads (j + 1)).used] 104)) d os).cell (p := ⟨wr.heap.size, 1, none⟩) (by rw [sV]; simp)).trans (by go_simp)
          have n2 : ∀ d os, (grow (redrawn (wr.alloc (.cells #[.int .i64 (atNo t.reads (j + 1)).region, .int .i64 (atNo t.reads (j + 1)).slot, .int .i64 (atNo t.reads (j + 1)).version, .int .i64 (atNo t.reads (j + 1)).value, .bool (atNo t.reads (j + 1)).used] 104)) d) os).cell? ⟨wr.heap.size, 2, none⟩ = some (.int .i64 (atNo t.reads (j + 1)).version) := fun d os => ((below_regrown (wr.alloc (.cells #[.int .i64 (atNo t.reads (j + 1)).region, .int .i64 (atNo t.reads (j + 1)).slot, .int .i64 (atNo t.reads (j + 1)).version, .int .i64 (atNo t.reads (j + 1)).value, .bool (atNo t.reads (j + 1)).used] 104)) d os).cell (p := ⟨wr.heap.size, 2, none⟩) (by rw [sV]; simp)).trans (by go_simp)
          have n3 : ∀ d os, (grow (redrawn (wr.alloc (.cells #[.int .i64 (atNo t.reads (j + 1)).region, .int .i64 (atNo t.reads (j + 1)).slot, .int .i64 (atNo t.reads (j + 1)).version, .int .i64 (atNo t.reads (j + 1)).value, .bool (atNo t.reads (j + 1)).used] 104)) d) os).cell? ⟨wr.heap.size, 3, none⟩ = some (.int .i64 (atNo t.reads (j + 1)).value) := fun d os => ((below_regrown (wr.alloc (.cells #[.int .i64 (atNo t.reads (j + 1)).region, .int .i64 (atNo t.reads (j + 1)).slot, .int .i64 (atNo t.reads (j + 1)).version, .int .i64 (atNo t.reads (j + 1)).value, .bool (atNo t.reads (j + 1)).used] 104)) d os).cell (p := ⟨wr.heap.size, 3, none⟩) (by rw [sV]; simp)).trans (by go_simp)
          have n4 : ∀ d os, (grow (redrawn (wr.alloc (.cells #[.int .i64 (atNo t.reads (j + 1)).region, .int .i64 (atNo t.reads (j + 1)).slot, .int .i64 (atNo t.reads (j + 1)).version, .int .i64 (atNo t.reads (j + 1)).value, .bool (atNo t.reads (j + 1)).used] 104)) d) os).cell? ⟨wr.heap.size, 4, none⟩ = some (.bool (atNo t.reads (j + 1)).used) := fun d os => ((below_regrown (wr.alloc (.cells #[.int .i64 (atNo t.reads (j + 1)).region, .int .i64 (atNo t.reads (j + 1)).slot, .int .i64 (atNo t.reads (j + 1)).version, .int .i64 (atNo t.reads (j + 1)).value, .bool (atNo t.reads (j + 1)).used] 104)) d os).cell (p := ⟨wr.heap.size, 4, none⟩) (by rw [sV]; simp)).trans (by go_simp)
          have p : ∀ d os, (grow (redrawn (wr.alloc (.cells #[.int .i64 (atNo t.reads (j + 1)).region, .int .i64 (atNo t.reads (j + 1)).slot, .int .i64 (atNo t.reads (j + 1)).version, .int .i64 (atNo t.reads (j + 1)).value, .bool (atNo t.reads (j + 1)).used] 104)) d) os).cell? ⟨w.heap.size, 4, none⟩ = some (.slice (some ⟨b, off, none⟩) t.reads.length cr) := fun d os => ((below_regrown (wr.alloc (.cells #[.int .i64 (atNo t.reads (j + 1)).region, .int .i64 (atNo t.reads (j + 1)).slot, .int .i64 (atNo t.reads (j + 1)).version, .int .i64 (atNo t.reads (j + 1)).value, .bool (atNo t.reads (j + 1)).used] 104)) d os).cell (p := ⟨w.heap.size, 4, none⟩) (by rw [sV]; dsimp only; omega)).trans ((bV.cell (p := ⟨w.heap.size, 4, none⟩) hzW).trans p4)
          have cN : ∀ d os, Calls Tryz.prog 102 #[.agg #[.int .i64 (atNo t.reads (j + 1)).region, .int .i64 (atNo t.reads (j + 1)).slot, .int .i64 (atNo t.reads (j + 1)).version, .int .i64 (atNo t.reads (j + 1)).value, .bool (atNo t.reads (j + 1)).used]] (grow (redrawn (wr.alloc (.cells #[.int .i64 (atNo t.reads (j + 1)).region, .int .i64 (atNo t.reads (j + 1)).slot, .int .i64 (atNo t.reads (j + 1)).version, .int .i64 (atNo t.reads (j + 1)).value, .bool (atNo t.reads (j + 1)).used] 104)) d) os) fun e w'' => e = .returned (.bool (noteOkB (atNo t.reads (j + 1)))) ∧ ∃ p : Regrown, w'' = grow (redrawn (wr.alloc (.cells #[.int .i64 (atNo t.reads (j + 1)).region, .int .i64 (atNo t.reads (j + 1)).slot, .int .i64 (atNo t.reads (j + 1)).version, .int .i64 (atNo t.reads (j + 1)).value, .bool (atNo t.reads (j + 1)).used] 104)) p.d) p.os := fun d os => Calls.regrown_of (specNote _ _)
          have KV : Hid (Below W.heap.size W (wr.alloc (.cells #[.int .i64 (atNo t.reads (j + 1)).region, .int .i64 (atNo t.reads (j + 1)).slot, .int .i64 (atNo t.reads (j + 1)).version, .int .i64 (atNo t.reads (j + 1)).value, .bool (atNo t.reads (j + 1)).used] 104))) := K.out.1.trans (bV.mono K.out.1.size)
          rw [gk] at cN
          have m0 : ∀ d os, (grow (redrawn (wr.alloc (.cells #[.int .i64 (atNo t.reads (j + 1)).region, .int .i64 (atNo t.reads (j + 1)).slot, .int .i64 (atNo t.reads (j + 1)).version, .int .i64 (atNo t.reads (j + 1)).value, .bool (atNo t.reads (j + 1)).used] 104)) d) os).cell? ⟨b, off + j * 5, none⟩ = some (.int .i64 (atNo t.reads j).region) := fun d os => ((below_regrown (wr.alloc (.cells #[.int .i64 (atNo t.reads (j + 1)).region, .int .i64 (atNo t.reads (j + 1)).slot, .int .i64 (atNo t.reads (j + 1)).version, .int .i64 (atNo t.reads (j + 1)).value, .bool (atNo t.reads (j + 1)).used] 104)) d os).cell (p := ⟨b, off + j * 5, none⟩) (by rw [sV]; dsimp only; omega)).trans ((bV.cell (p := ⟨b, off + j * 5, none⟩) hb).trans u0)
          have m1 : ∀ d os, (grow (redrawn (wr.alloc (.cells #[.int .i64 (atNo t.reads (j + 1)).region, .int .i64 (atNo t.reads (j + 1)).slot, .int .i64 (atNo t.reads (j + 1)).version, .int .i64 (atNo t.reads (j + 1)).value, .bool (atNo t.reads (j + 1)).used] 104)) d) os).cell? ⟨b, off + j * 5 + 1, none⟩ = some (.int .i64 (atNo t.reads j).slot) := fun d os => ((below_regrown (wr.alloc (.cells #[.int .i64 (atNo t.reads (j + 1)).region, .int .i64 (atNo t.reads (j + 1)).slot, .int .i64 (atNo t.reads (j + 1)).version, .int .i64 (atNo t.reads (j + 1)).value, .bool (atNo t.reads (j + 1)).used] 104)) d os).cell (p := ⟨b, off + j * 5 + 1, none⟩) (by rw [sV]; dsimp only; omega)).trans ((bV.cell (p := ⟨b, off + j * 5 + 1, none⟩) hb).trans u1)
          have cL : ∀ d os, Calls Tryz.prog 103 #[.int .i64 (atNo t.reads j).region, .int .i64 (atNo t.reads j).slot, .int .i64 (atNo t.reads (j + 1)).region, .int .i64 (atNo t.reads (j + 1)).slot] (grow (redrawn (wr.alloc (.cells #[.int .i64 (atNo t.reads (j + 1)).region, .int .i64 (atNo t.reads (j + 1)).slot, .int .i64 (atNo t.reads (j + 1)).version, .int .i64 (atNo t.reads (j + 1)).value, .bool (atNo t.reads (j + 1)).used] 104)) d) os) fun e w'' => e = .returned (.bool (lessB (atNo t.reads j).region (atNo t.reads j).slot (atNo t.reads (j + 1)).region (atNo t.reads (j + 1)).slot)) ∧ ∃ p : Regrown, w'' = grow (redrawn (wr.alloc (.cells #[.int .i64 (atNo t.reads (j + 1)).region, .int .i64 (atNo t.reads (j + 1)).slot, .int .i64 (atNo t.reads (j + 1)).version, .int .i64 (atNo t.reads (j + 1)).value, .bool (atNo t.reads (j + 1)).used] 104)) p.d) p.os := fun d os => Calls.regrown_of (specLess _ _ _ _ _)
          clear bV sV h1 u0 u1 u2 u3 u4
          cases gl : lessB (atNo t.reads j).region (atNo t.reads j).slot (atNo t.reads (j + 1)).region (atNo t.reads (j + 1)).slot with
          | false =>
            rw [gl] at cL
            go_wp2_with fail
            generalize (wr.alloc (.cells #[.int .i64 (atNo t.reads (j + 1)).region, .int .i64 (atNo t.reads (j + 1)).slot, .int .i64 (atNo t.reads (j + 1)).version, .int .i64 (atNo t.reads (j + 1)).value, .bool (atNo t.reads (j + 1)).used] 104)) = V at *
            refine wp_region_quiet_below (by kernel_rfl) (by kernel_rfl) ?_
            repeat (go_big_quiet_step (first | exact cN _ _ | exact cL _ _))
            refine wpQuiet_nil ?_
            intro _ hw'
            obtain ⟨⟨dq, osq⟩, hw''⟩ := hw'
            subst hw''
            have bq := below_regrown V dq osq
            have KB : Hid (Below W.heap.size W (grow (redrawn V dq) osq)) := KV.out.trans (bq.mono KV.out.size)
            go_wp2
            go_ret
            exact ⟨by rw [HM.out, alls_fail hlt (no_low gl)]; rfl, KF.out _ KB.out⟩
          | true =>
            rw [gl] at cL
            go_wp2_with fail
            generalize (wr.alloc (.cells #[.int .i64 (atNo t.reads (j + 1)).region, .int .i64 (atNo t.reads (j + 1)).slot, .int .i64 (atNo t.reads (j + 1)).version, .int .i64 (atNo t.reads (j + 1)).value, .bool (atNo t.reads (j + 1)).used] 104)) = V at *
            refine wp_region_quiet_below (by kernel_rfl) (by kernel_rfl) ?_
            repeat (go_big_quiet_step (first | exact cN _ _ | exact cL _ _))
            refine wpQuiet_nil ?_
            intro _ hw'
            obtain ⟨⟨dq, osq⟩, hw''⟩ := hw'
            subst hw''
            have bq := below_regrown V dq osq
            have KB : Hid (Below W.heap.size W (grow (redrawn V dq) osq)) := KV.out.trans (bq.mono KV.out.size)
            go_wp2
            exact ⟨⟨j + 1 + 1, by omega, by simp, KB.out, alls_step K.out.2 (no_good gk gl)⟩, by simp [intOf]; omega⟩
    · obtain rfl : k = t.reads.length := by omega
      have hd : decide ((t.reads.length : Int) < (t.reads.length : Int)) = false := by simp
      clear sR
      have HN : Hid (txB t = (List.range t.sets.length).all (seAt t.sets)) := by unfold Hid; rw [HM.out, K.out.2]; rfl
      have KQ : Hid (Below W.heap.size W wr) := K.out.1
      clear hzW hkk K
      go_wp2
      clear hd p4
      generalize wr = W9 at *
      go_loopw [5] (fun v3 wr => ∃ k : Nat, k ≤ t.sets.length ∧ v3 = .int .i64 k ∧ Below W.heap.size W wr ∧ (List.range k).all (seAt t.sets) = true) (fun v3 _ => t.sets.length - (intOf v3).toNat)
      case atStart => exact ⟨0, Nat.zero_le _, rfl, KQ.out, rfl⟩
      case round =>
        obtain ⟨k, hkk, rfl, hbl, hall⟩ := hrel
        have xr := H.out.2.later hbl
        have p4 := xr.c5
        have hzW := xr.lt
        have K : Hid (Below W.heap.size W wr ∧ (List.range k).all (seAt t.sets) = true) := ⟨hbl, hall⟩
        have sR := (H.out.1.later hbl).s
        clear xr hbl hall
        by_cases hlt : k < t.sets.length
        · obtain ⟨_, hsk⟩ := sR
          dsimp only at hsk
          rcases hsk with hsk | ⟨b, off, rfl, hb, h1⟩
          · omega
          obtain ⟨t0, t1, t2, t3, t4⟩ := h1 k _ (atSe_of hlt)
          cases gk : setOkB (atSe t.sets k) with
          | false =>
            have bV : Below wr.heap.size wr (wr.alloc (.cells #[.int .i64 (atSe t.sets k).region, .int .i64 (atSe t.sets k).slot, .int .i64 (atSe t.sets k).value, .bool (atSe t.sets k).used, .int .i64 (atSe t.sets k).version] 106)) := (Below.refl _ _).alloc (Nat.le_refl _) _
            have sV : (wr.alloc (.cells #[.int .i64 (atSe t.sets k).region, .int .i64 (atSe t.sets k).slot, .int .i64 (atSe t.sets k).value, .bool (atSe t.sets k).used, .int .i64 (atSe t.sets k).version] 106)).heap.size = wr.heap.size + 1 := by simp
            have n0 : ∀ d os, (grow (redrawn (wr.alloc (.cells #[.int .i64 (atSe t.sets k).region, .int .i64 (atSe t.sets k).slot, .int .i64 (atSe t.sets k).value, .bool (atSe t.sets k).used, .int .i64 (atSe t.sets k).version] 106)) d) os).cell? ⟨wr.heap.size, 0, none⟩ = some (.int .i64 (atSe t.sets k).region) := fun d os => ((below_regrown (wr.alloc (.cells #[.int .i64 (atSe t.sets k).region, .int .i64 (atSe t.sets k).slot, .int .i64 (atSe t.sets k).value, .bool (atSe t.sets k).used, .int .i64 (atSe t.sets k).version] 106)) d os).cell (p := ⟨wr.heap.size, 0, none⟩) (by rw [sV]; simp)).trans (by go_simp)
            have n1 : ∀ d os, (grow (redrawn (wr.alloc (.cells #[.int .i64 (atSe t.sets k).region, .int .i64 (atSe t.sets k).slot, .int .i64 (atSe t.sets k).value, .bool (atSe t.sets k).used, .int .i64 (atSe t.sets k).version] 106)) d) os).cell? ⟨wr.heap.size, 1, none⟩ = some (.int .i64 (atSe t.sets k).slot) := fun d os => ((below_regrown (wr.alloc (.cells #[.int .i64 (atSe t.sets k).region, .int .i64 (atSe t.sets k).slot, .int .i64 (atSe t.sets k).value, .bool (atSe t.sets k).used, .int .i64 (atSe t.sets k).version] 106)) d os).cell (p := ⟨wr.heap.size, 1, none⟩) (by rw [sV]; simp)).trans (by go_simp)
            have n2 : ∀ d os, (grow (redrawn (wr.alloc (.cells #[.int .i64 (atSe t.sets k).region, .int .i64 (atSe t.sets k).slot, .int .i64 (atSe t.sets k).value, .bool (atSe t.sets k).used, .int .i64 (atSe t.sets k).version] 106)) d) os).cell? ⟨wr.heap.size, 2, none⟩ = some (.int .i64 (atSe t.sets k).value) := fun d os => ((below_regrown (wr.alloc (.cells #[.int .i64 (atSe t.sets k).region, .int .i64 (atSe t.sets k).slot, .int .i64 (atSe t.sets k).value, .bool (atSe t.sets k).used, .int .i64 (atSe t.sets k).version] 106)) d os).cell (p := ⟨wr.heap.size, 2, none⟩) (by rw [sV]; simp)).trans (by go_simp)
            have n3 : ∀ d os, (grow (redrawn (wr.alloc (.cells #[.int .i64 (atSe t.sets k).region, .int .i64 (atSe t.sets k).slot, .int .i64 (atSe t.sets k).value, .bool (atSe t.sets k).used, .int .i64 (atSe t.sets k).version] 106)) d) os).cell? ⟨wr.heap.size, 3, none⟩ = some (.bool (atSe t.sets k).used) := fun d os => ((below_regrown (wr.alloc (.cells #[.int .i64 (atSe t.sets k).region, .int .i64 (atSe t.sets k).slot, .int .i64 (atSe t.sets k).value, .bool (atSe t.sets k).used, .int .i64 (atSe t.sets k).version] 106)) d os).cell (p := ⟨wr.heap.size, 3, none⟩) (by rw [sV]; simp)).trans (by go_simp)
            have n4 : ∀ d os, (grow (redrawn (wr.alloc (.cells #[.int .i64 (atSe t.sets k).region, .int .i64 (atSe t.sets k).slot, .int .i64 (atSe t.sets k).value, .bool (atSe t.sets k).used, .int .i64 (atSe t.sets k).version] 106)) d) os).cell? ⟨wr.heap.size, 4, none⟩ = some (.int .i64 (atSe t.sets k).version) := fun d os => ((below_regrown (wr.alloc (.cells #[.int .i64 (atSe t.sets k).region, .int .i64 (atSe t.sets k).slot, .int .i64 (atSe t.sets k).value, .bool (atSe t.sets k).used, .int .i64 (atSe t.sets k).version] 106)) d os).cell (p := ⟨wr.heap.size, 4, none⟩) (by rw [sV]; simp)).trans (by go_simp)
            have p : ∀ d os, (grow (redrawn (wr.alloc (.cells #[.int .i64 (atSe t.sets k).region, .int .i64 (atSe t.sets k).slot, .int .i64 (atSe t.sets k).value, .bool (atSe t.sets k).used, .int .i64 (atSe t.sets k).version] 106)) d) os).cell? ⟨w.heap.size, 5, none⟩ = some (.slice (some ⟨b, off, none⟩) t.sets.length ch) := fun d os => ((below_regrown (wr.alloc (.cells #[.int .i64 (atSe t.sets k).region, .int .i64 (atSe t.sets k).slot, .int .i64 (atSe t.sets k).value, .bool (atSe t.sets k).used, .int .i64 (atSe t.sets k).version] 106)) d os).cell (p := ⟨w.heap.size, 5, none⟩) (by rw [sV]; dsimp only; omega)).trans ((bV.cell (p := ⟨w.heap.size, 5, none⟩) hzW).trans p4)
            have cN : ∀ d os, Calls Tryz.prog 104 #[.agg #[.int .i64 (atSe t.sets k).region, .int .i64 (atSe t.sets k).slot, .int .i64 (atSe t.sets k).value, .bool (atSe t.sets k).used, .int .i64 (atSe t.sets k).version]] (grow (redrawn (wr.alloc (.cells #[.int .i64 (atSe t.sets k).region, .int .i64 (atSe t.sets k).slot, .int .i64 (atSe t.sets k).value, .bool (atSe t.sets k).used, .int .i64 (atSe t.sets k).version] 106)) d) os) fun e w'' => e = .returned (.bool (setOkB (atSe t.sets k))) ∧ ∃ p : Regrown, w'' = grow (redrawn (wr.alloc (.cells #[.int .i64 (atSe t.sets k).region, .int .i64 (atSe t.sets k).slot, .int .i64 (atSe t.sets k).value, .bool (atSe t.sets k).used, .int .i64 (atSe t.sets k).version] 106)) p.d) p.os := fun d os => Calls.regrown_of (specSetOk _ _)
            have KV : Hid (Below W.heap.size W (wr.alloc (.cells #[.int .i64 (atSe t.sets k).region, .int .i64 (atSe t.sets k).slot, .int .i64 (atSe t.sets k).value, .bool (atSe t.sets k).used, .int .i64 (atSe t.sets k).version] 106))) := K.out.1.trans (bV.mono K.out.1.size)
            rw [gk] at cN
            clear bV sV h1
            go_wp2_with fail
            generalize (wr.alloc (.cells #[.int .i64 (atSe t.sets k).region, .int .i64 (atSe t.sets k).slot, .int .i64 (atSe t.sets k).value, .bool (atSe t.sets k).used, .int .i64 (atSe t.sets k).version] 106)) = V at *
            refine wp_region_quiet_below (by kernel_rfl) (by kernel_rfl) ?_
            repeat (go_big_quiet_step (first | exact cN _ _))
            refine wpQuiet_nil ?_
            intro _ hw'
            obtain ⟨⟨dq, osq⟩, hw''⟩ := hw'
            subst hw''
            have bq := below_regrown V dq osq
            have KB : Hid (Below W.heap.size W (grow (redrawn V dq) osq)) := KV.out.trans (bq.mono KV.out.size)
            go_wp2
            go_ret
            exact ⟨by rw [HN.out, alls_fail hlt (se_bad gk)]; rfl, KF.out _ KB.out⟩
          | true =>
            rcases k with _ | j
            · simp only [Nat.zero_mul, Nat.add_zero] at t0 t1 t2 t3 t4
              have bV : Below wr.heap.size wr (wr.alloc (.cells #[.int .i64 (atSe t.sets 0).region, .int .i64 (atSe t.sets 0).slot, .int .i64 (atSe t.sets 0).value, .bool (atSe t.sets 0).used, .int .i64 (atSe t.sets 0).version] 106)) := (Below.refl _ _).alloc (Nat.le_refl _) _
              have sV : (wr.alloc (.cells #[.int .i64 (atSe t.sets 0).region, .int .i64 (atSe t.sets 0).slot, .int .i64 (atSe t.sets 0).value, .bool (atSe t.sets 0).used, .int .i64 (atSe t.sets 0).version] 106)).heap.size = wr.heap.size + 1 := by simp
              have n0 : ∀ d os, (grow (redrawn (wr.alloc (.cells #[.int .i64 (atSe t.sets 0).region, .int .i64 (atSe t.sets 0).slot, .int .i64 (atSe t.sets 0).value, .bool (atSe t.sets 0).used, .int .i64 (atSe t.sets 0).version] 106)) d) os).cell? ⟨wr.heap.size, 0, none⟩ = some (.int .i64 (atSe t.sets 0).region) := fun d os => ((below_regrown (wr.alloc (.cells #[.int .i64 (atSe t.sets 0).region, .int .i64 (atSe t.sets 0).slot, .int .i64 (atSe t.sets 0).value, .bool (atSe t.sets 0).used, .int .i64 (atSe t.sets 0).version] 106)) d os).cell (p := ⟨wr.heap.size, 0, none⟩) (by rw [sV]; simp)).trans (by go_simp)
              have n1 : ∀ d os, (grow (redrawn (wr.alloc (.cells #[.int .i64 (atSe t.sets 0).region, .int .i64 (atSe t.sets 0).slot, .int .i64 (atSe t.sets 0).value, .bool (atSe t.sets 0).used, .int .i64 (atSe t.sets 0).version] 106)) d) os).cell? ⟨wr.heap.size, 1, none⟩ = some (.int .i64 (atSe t.sets 0).slot) := fun d os => ((below_regrown (wr.alloc (.cells #[.int .i64 (atSe t.sets 0).region, .int .i64 (atSe t.sets 0).slot, .int .i64 (atSe t.sets 0).value, .bool (atSe t.sets 0).used, .int .i64 (atSe t.sets 0).version] 106)) d os).cell (p := ⟨wr.heap.size, 1, none⟩) (by rw [sV]; simp)).trans (by go_simp)
              have n2 : ∀ d os, (grow (redrawn (wr.alloc (.cells #[.int .i64 (atSe t.sets 0).region, .int .i64 (atSe t.sets 0).slot, .int .i64 (atSe t.sets 0).value, .bool (atSe t.sets 0).used, .int .i64 (atSe t.sets 0).version] 106)) d) os).cell? ⟨wr.heap.size, 2, none⟩ = some (.int .i64 (atSe t.sets 0).value) := fun d os => ((below_regrown (wr.alloc (.cells #[.int .i64 (atSe t.sets 0).region, .int .i64 (atSe t.sets 0).slot, .int .i64 (atSe t.sets 0).value, .bool (atSe t.sets 0).used, .int .i64 (atSe t.sets 0).version] 106)) d os).cell (p := ⟨wr.heap.size, 2, none⟩) (by rw [sV]; simp)).trans (by go_simp)
              have n3 : ∀ d os, (grow (redrawn (wr.alloc (.cells #[.int .i64 (atSe t.sets 0).region, .int .i64 (atSe t.sets 0).slot, .int .i64 (atSe t.sets 0).value, .bool (atSe t.sets 0).used, .int .i64 (atSe t.sets 0).version] 106)) d) os).cell? ⟨wr.heap.size, 3, none⟩ = some (.bool (atSe t.sets 0).used) := fun d os => ((below_regrown (wr.alloc (.cells #[.int .i64 (atSe t.sets 0).region, .int .i64 (atSe t.sets 0).slot, .int .i64 (atSe t.sets 0).value, .bool (atSe t.sets 0).used, .int .i64 (atSe t.sets 0).version] 106)) d os).cell (p := ⟨wr.heap.size, 3, none⟩) (by rw [sV]; simp)).trans (by go_simp)
              have n4 : ∀ d os, (grow (redrawn (wr.alloc (.cells #[.int .i64 (atSe t.sets 0).region, .int .i64 (atSe t.sets 0).slot, .int .i64 (atSe t.sets 0).value, .bool (atSe t.sets 0).used, .int .i64 (atSe t.sets 0).version] 106)) d) os).cell? ⟨wr.heap.size, 4, none⟩ = some (.int .i64 (atSe t.sets 0).version) := fun d os => ((below_regrown (wr.alloc (.cells #[.int .i64 (atSe t.sets 0).region, .int .i64 (atSe t.sets 0).slot, .int .i64 (atSe t.sets 0).value, .bool (atSe t.sets 0).used, .int .i64 (atSe t.sets 0).version] 106)) d os).cell (p := ⟨wr.heap.size, 4, none⟩) (by rw [sV]; simp)).trans (by go_simp)
              have p : ∀ d os, (grow (redrawn (wr.alloc (.cells #[.int .i64 (atSe t.sets 0).region, .int .i64 (atSe t.sets 0).slot, .int .i64 (atSe t.sets 0).value, .bool (atSe t.sets 0).used, .int .i64 (atSe t.sets 0).version] 106)) d) os).cell? ⟨w.heap.size, 5, none⟩ = some (.slice (some ⟨b, off, none⟩) t.sets.length ch) := fun d os => ((below_regrown (wr.alloc (.cells #[.int .i64 (atSe t.sets 0).region, .int .i64 (atSe t.sets 0).slot, .int .i64 (atSe t.sets 0).value, .bool (atSe t.sets 0).used, .int .i64 (atSe t.sets 0).version] 106)) d os).cell (p := ⟨w.heap.size, 5, none⟩) (by rw [sV]; dsimp only; omega)).trans ((bV.cell (p := ⟨w.heap.size, 5, none⟩) hzW).trans p4)
              have cN : ∀ d os, Calls Tryz.prog 104 #[.agg #[.int .i64 (atSe t.sets 0).region, .int .i64 (atSe t.sets 0).slot, .int .i64 (atSe t.sets 0).value, .bool (atSe t.sets 0).used, .int .i64 (atSe t.sets 0).version]] (grow (redrawn (wr.alloc (.cells #[.int .i64 (atSe t.sets 0).region, .int .i64 (atSe t.sets 0).slot, .int .i64 (atSe t.sets 0).value, .bool (atSe t.sets 0).used, .int .i64 (atSe t.sets 0).version] 106)) d) os) fun e w'' => e = .returned (.bool (setOkB (atSe t.sets 0))) ∧ ∃ p : Regrown, w'' = grow (redrawn (wr.alloc (.cells #[.int .i64 (atSe t.sets 0).region, .int .i64 (atSe t.sets 0).slot, .int .i64 (atSe t.sets 0).value, .bool (atSe t.sets 0).used, .int .i64 (atSe t.sets 0).version] 106)) p.d) p.os := fun d os => Calls.regrown_of (specSetOk _ _)
              have KV : Hid (Below W.heap.size W (wr.alloc (.cells #[.int .i64 (atSe t.sets 0).region, .int .i64 (atSe t.sets 0).slot, .int .i64 (atSe t.sets 0).value, .bool (atSe t.sets 0).used, .int .i64 (atSe t.sets 0).version] 106))) := K.out.1.trans (bV.mono K.out.1.size)
              rw [gk] at cN
              clear bV sV h1
              go_wp2_with fail
              generalize (wr.alloc (.cells #[.int .i64 (atSe t.sets 0).region, .int .i64 (atSe t.sets 0).slot, .int .i64 (atSe t.sets 0).value, .bool (atSe t.sets 0).used, .int .i64 (atSe t.sets 0).version] 106)) = V at *
              refine wp_region_quiet_below (by kernel_rfl) (by kernel_rfl) ?_
              repeat (go_big_quiet_step (first | exact cN _ _))
              refine wpQuiet_nil ?_
              intro _ hw'
              obtain ⟨⟨dq, osq⟩, hw''⟩ := hw'
              subst hw''
              have bq := below_regrown V dq osq
              have KB : Hid (Below W.heap.size W (grow (redrawn V dq) osq)) := KV.out.trans (bq.mono KV.out.size)
              go_wp2
              exact ⟨⟨1, by omega, by simp, KB.out, alls_step K.out.2 (se_first gk)⟩, by simp [intOf]; omega⟩
            · obtain ⟨u0, u1, u2, u3, u4⟩ := h1 j _ (atSe_of (by omega))
              have hj : (j : Int) < (t.sets.length : Int) := by omega
              have bV : Below wr.heap.size wr (wr.alloc (.cells #[.int .i64 (atSe t.sets (j + 1)).region, .int .i64 (atSe t.sets (j + 1)).slot, .int .i64 (atSe t.sets (j + 1)).value, .bool (atSe t.sets (j + 1)).used, .int .i64 (atSe t.sets (j + 1)).version] 106)) := (Below.refl _ _).alloc (Nat.le_refl _) _
              have sV : (wr.alloc (.cells #[.int .i64 (atSe t.sets (j + 1)).region, .int .i64 (atSe t.sets (j + 1)).slot, .int .i64 (atSe t.sets (j + 1)).value, .bool (atSe t.sets (j + 1)).used, .int .i64 (atSe t.sets (j + 1)).version] 106)).heap.size = wr.heap.size + 1 := by simp
              have n0 : ∀ d os, (grow (redrawn (wr.alloc (.cells #[.int .i64 (atSe t.sets (j + 1)).region, .int .i64 (atSe t.sets (j + 1)).slot, .int .i64 (atSe t.sets (j + 1)).value, .bool (atSe t.sets (j + 1)).used, .int .i64 (atSe t.sets (j + 1)).version] 106)) d) os).cell? ⟨wr.heap.size, 0, none⟩ = some (.int .i64 (atSe t.sets (j + 1)).region) := fun d os => ((below_regrown (wr.alloc (.cells #[.int .i64 (atSe t.sets (j + 1)).region, .int .i64 (atSe t.sets (j + 1)).slot, .int .i64 (atSe t.sets (j + 1)).value, .bool (atSe t.sets (j + 1)).used, .int .i64 (atSe t.sets (j + 1)).version] 106)) d os).cell (p := ⟨wr.heap.size, 0, none⟩) (by rw [sV]; simp)).trans (by go_simp)
              have n1 : ∀ d os, (grow (redrawn (wr.alloc (.cells #[.int .i64 (atSe t.sets (j + 1)).region, .int .i64 (atSe t.sets (j + 1)).slot, .int .i64 (atSe t.sets (j + 1)).value, .bool (atSe t.sets (j + 1)).used, .int .i64 (atSe t.sets (j + 1)).version] 106)) d) os).cell? ⟨wr.heap.size, 1, none⟩ = some (.int .i64 (atSe t.sets (j + 1)).slot) := fun d os => ((below_regrown (wr.alloc (.cells #[.int .i64 (atSe t.sets (j + 1)).region, .int .i64 (atSe t.sets (j + 1)).slot, .int .i64 (atSe t.sets (j + 1)).value, .bool (atSe t.sets (j + 1)).used, .int .i64 (atSe t.sets (j + 1)).version] 106)) d os).cell (p := ⟨wr.heap.size, 1, none⟩) (by rw [sV]; simp)).trans (by go_simp)
              have n2 : ∀ d os, (grow (redrawn (wr.alloc (.cells #[.int .i64 (atSe t.sets (j + 1)).region, .int .i64 (atSe t.sets (j + 1)).slot, .int .i64 (atSe t.sets (j + 1)).value, .bool (atSe t.sets (j + 1)).used, .int .i64 (atSe t.sets (j + 1)).version] 106)) d) os).cell? ⟨wr.heap.size, 2, none⟩ = some (.int .i64 (atSe t.sets (j + 1)).value) := fun d os => ((below_regrown (wr.alloc (.cells #[.int .i64 (atSe t.sets (j + 1)).region, .int .i64 (atSe t.sets (j + 1)).slot, .int .i64 (atSe t.sets (j + 1)).value, .bool (atSe t.sets (j + 1)).used, .int .i64 (atSe t.sets (j + 1)).version] 106)) d os).cell (p := ⟨wr.heap.size, 2, none⟩) (by rw [sV]; simp)).trans (by go_simp)
              have n3 : ∀ d os, (grow (redrawn (wr.alloc (.cells #[.int .i64 (atSe t.sets (j + 1)).region, .int .i64 (atSe t.sets (j + 1)).slot, .int .i64 (atSe t.sets (j + 1)).value, .bool (atSe t.sets (j + 1)).used, .int .i64 (atSe t.sets (j + 1)).version] 106)) d) os).cell? ⟨wr.heap.size, 3, none⟩ = some (.bool (atSe t.sets (j + 1)).used) := fun d os => ((below_regrown (wr.alloc (.cells #[.int .i64 (atSe t.sets (j + 1)).region, .int .i64 (atSe t.sets (j + 1)).slot, .int .i64 (atSe t.sets (j + 1)).value, .bool (atSe t.sets (j + 1)).used, .int .i64 (atSe t.sets (j + 1)).version] 106)) d os).cell (p := ⟨wr.heap.size, 3, none⟩) (by rw [sV]; simp)).trans (by go_simp)
              have n4 : ∀ d os, (grow (redrawn (wr.alloc (.cells #[.int .i64 (atSe t.sets (j + 1)).region, .int .i64 (atSe t.sets (j + 1)).slot, .int .i64 (atSe t.sets (j + 1)).value, .bool (atSe t.sets (j + 1)).used, .int .i64 (atSe t.sets (j + 1)).version] 106)) d) os).cell? ⟨wr.heap.size, 4, none⟩ = some (.int .i64 (atSe t.sets (j + 1)).version) := fun d os => ((below_regrown (wr.alloc (.cells #[.int .i64 (atSe t.sets (j + 1)).region, .int .i64 (atSe t.sets (j + 1)).slot, .int .i64 (atSe t.sets (j + 1)).value, .bool (atSe t.sets (j + 1)).used, .int .i64 (atSe t.sets (j + 1)).version] 106)) d os).cell (p := ⟨wr.heap.size, 4, none⟩) (by rw [sV]; simp)).trans (by go_simp)
              have p : ∀ d os, (grow (redrawn (wr.alloc (.cells #[.int .i64 (atSe t.sets (j + 1)).region, .int .i64 (atSe t.sets (j + 1)).slot, .int .i64 (atSe t.sets (j + 1)).value, .bool (atSe t.sets (j + 1)).used, .int .i64 (atSe t.sets (j + 1)).version] 106)) d) os).cell? ⟨w.heap.size, 5, none⟩ = some (.slice (some ⟨b, off, none⟩) t.sets.length ch) := fun d os => ((below_regrown (wr.alloc (.cells #[.int .i64 (atSe t.sets (j + 1)).region, .int .i64 (atSe t.sets (j + 1)).slot, .int .i64 (atSe t.sets (j + 1)).value, .bool (atSe t.sets (j + 1)).used, .int .i64 (atSe t.sets (j + 1)).version] 106)) d os).cell (p := ⟨w.heap.size, 5, none⟩) (by rw [sV]; dsimp only; omega)).trans ((bV.cell (p := ⟨w.heap.size, 5, none⟩) hzW).trans p4)
              have cN : ∀ d os, Calls Tryz.prog 104 #[.agg #[.int .i64 (atSe t.sets (j + 1)).region, .int .i64 (atSe t.sets (j + 1)).slot, .int .i64 (atSe t.sets (j + 1)).value, .bool (atSe t.sets (j + 1)).used, .int .i64 (atSe t.sets (j + 1)).version]] (grow (redrawn (wr.alloc (.cells #[.int .i64 (atSe t.sets (j + 1)).region, .int .i64 (atSe t.sets (j + 1)).slot, .int .i64 (atSe t.sets (j + 1)).value, .bool (atSe t.sets (j + 1)).used, .int .i64 (atSe t.sets (j + 1)).version] 106)) d) os) fun e w'' => e = .returned (.bool (setOkB (atSe t.sets (j + 1)))) ∧ ∃ p : Regrown, w'' = grow (redrawn (wr.alloc (.cells #[.int .i64 (atSe t.sets (j + 1)).region, .int .i64 (atSe t.sets (j + 1)).slot, .int .i64 (atSe t.sets (j + 1)).value, .bool (atSe t.sets (j + 1)).used, .int .i64 (atSe t.sets (j + 1)).version] 106)) p.d) p.os := fun d os => Calls.regrown_of (specSetOk _ _)
              have KV : Hid (Below W.heap.size W (wr.alloc (.cells #[.int .i64 (atSe t.sets (j + 1)).region, .int .i64 (atSe t.sets (j + 1)).slot, .int .i64 (atSe t.sets (j + 1)).value, .bool (atSe t.sets (j + 1)).used, .int .i64 (atSe t.sets (j + 1)).version] 106))) := K.out.1.trans (bV.mono K.out.1.size)
              rw [gk] at cN
              have m0 : ∀ d os, (grow (redrawn (wr.alloc (.cells #[.int .i64 (atSe t.sets (j + 1)).region, .int .i64 (atSe t.sets (j + 1)).slot, .int .i64 (atSe t.sets (j + 1)).value, .bool (atSe t.sets (j + 1)).used, .int .i64 (atSe t.sets (j + 1)).version] 106)) d) os).cell? ⟨b, off + j * 5, none⟩ = some (.int .i64 (atSe t.sets j).region) := fun d os => ((below_regrown (wr.alloc (.cells #[.int .i64 (atSe t.sets (j + 1)).region, .int .i64 (atSe t.sets (j + 1)).slot, .int .i64 (atSe t.sets (j + 1)).value, .bool (atSe t.sets (j + 1)).used, .int .i64 (atSe t.sets (j + 1)).version] 106)) d os).cell (p := ⟨b, off + j * 5, none⟩) (by rw [sV]; dsimp only; omega)).trans ((bV.cell (p := ⟨b, off + j * 5, none⟩) hb).trans u0)
              have m1 : ∀ d os, (grow (redrawn (wr.alloc (.cells #[.int .i64 (atSe t.sets (j + 1)).region, .int .i64 (atSe t.sets (j + 1)).slot, .int .i64 (atSe t.sets (j + 1)).value, .bool (atSe t.sets (j + 1)).used, .int .i64 (atSe t.sets (j + 1)).version] 106)) d) os).cell? ⟨b, off + j * 5 + 1, none⟩ = some (.int .i64 (atSe t.sets j).slot) := fun d os => ((below_regrown (wr.alloc (.cells #[.int .i64 (atSe t.sets (j + 1)).region, .int .i64 (atSe t.sets (j + 1)).slot, .int .i64 (atSe t.sets (j + 1)).value, .bool (atSe t.sets (j + 1)).used, .int .i64 (atSe t.sets (j + 1)).version] 106)) d os).cell (p := ⟨b, off + j * 5 + 1, none⟩) (by rw [sV]; dsimp only; omega)).trans ((bV.cell (p := ⟨b, off + j * 5 + 1, none⟩) hb).trans u1)
              have cL : ∀ d os, Calls Tryz.prog 103 #[.int .i64 (atSe t.sets j).region, .int .i64 (atSe t.sets j).slot, .int .i64 (atSe t.sets (j + 1)).region, .int .i64 (atSe t.sets (j + 1)).slot] (grow (redrawn (wr.alloc (.cells #[.int .i64 (atSe t.sets (j + 1)).region, .int .i64 (atSe t.sets (j + 1)).slot, .int .i64 (atSe t.sets (j + 1)).value, .bool (atSe t.sets (j + 1)).used, .int .i64 (atSe t.sets (j + 1)).version] 106)) d) os) fun e w'' => e = .returned (.bool (lessB (atSe t.sets j).region (atSe t.sets j).slot (atSe t.sets (j + 1)).region (atSe t.sets (j + 1)).slot)) ∧ ∃ p : Regrown, w'' = grow (redrawn (wr.alloc (.cells #[.int .i64 (atSe t.sets (j + 1)).region, .int .i64 (atSe t.sets (j + 1)).slot, .int .i64 (atSe t.sets (j + 1)).value, .bool (atSe t.sets (j + 1)).used, .int .i64 (atSe t.sets (j + 1)).version] 106)) p.d) p.os := fun d os => Calls.regrown_of (specLess _ _ _ _ _)
              clear bV sV h1 u0 u1 u2 u3 u4
              cases gl : lessB (atSe t.sets j).region (atSe t.sets j).slot (atSe t.sets (j + 1)).region (atSe t.sets (j + 1)).slot with
              | false =>
                rw [gl] at cL
                go_wp2_with fail
                generalize (wr.alloc (.cells #[.int .i64 (atSe t.sets (j + 1)).region, .int .i64 (atSe t.sets (j + 1)).slot, .int .i64 (atSe t.sets (j + 1)).value, .bool (atSe t.sets (j + 1)).used, .int .i64 (atSe t.sets (j + 1)).version] 106)) = V at *
                refine wp_region_quiet_below (by kernel_rfl) (by kernel_rfl) ?_
                repeat (go_big_quiet_step (first | exact cN _ _ | exact cL _ _))
                refine wpQuiet_nil ?_
                intro _ hw'
                obtain ⟨⟨dq, osq⟩, hw''⟩ := hw'
                subst hw''
                have bq := below_regrown V dq osq
                have KB : Hid (Below W.heap.size W (grow (redrawn V dq) osq)) := KV.out.trans (bq.mono KV.out.size)
                go_wp2
                go_ret
                exact ⟨by rw [HN.out, alls_fail hlt (se_low gl)]; rfl, KF.out _ KB.out⟩
              | true =>
                rw [gl] at cL
                go_wp2_with fail
                generalize (wr.alloc (.cells #[.int .i64 (atSe t.sets (j + 1)).region, .int .i64 (atSe t.sets (j + 1)).slot, .int .i64 (atSe t.sets (j + 1)).value, .bool (atSe t.sets (j + 1)).used, .int .i64 (atSe t.sets (j + 1)).version] 106)) = V at *
                refine wp_region_quiet_below (by kernel_rfl) (by kernel_rfl) ?_
                repeat (go_big_quiet_step (first | exact cN _ _ | exact cL _ _))
                refine wpQuiet_nil ?_
                intro _ hw'
                obtain ⟨⟨dq, osq⟩, hw''⟩ := hw'
                subst hw''
                have bq := below_regrown V dq osq
                have KB : Hid (Below W.heap.size W (grow (redrawn V dq) osq)) := KV.out.trans (bq.mono KV.out.size)
                go_wp2
                exact ⟨⟨j + 1 + 1, by omega, by simp, KB.out, alls_step K.out.2 (se_good gk gl)⟩, by simp [intOf]; omega⟩
        · obtain rfl : k = t.sets.length := by omega
          have hd : decide ((t.sets.length : Int) < (t.sets.length : Int)) = false := by simp
          clear sR
          go_wp2
          go_ret
          exact ⟨by rw [HN.out, K.out.2]; rfl, KF.out _ K.out.1⟩
end Go.Proofs.YtdmpobegobfpjaaGreat.tx