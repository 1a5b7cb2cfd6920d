/- CluI4; CluI5: joined. -/
import Derived.Test.YtalmflikdnflfaaGreatRows
import Derived.Test.YtalmflikdnflfaaGreatCluI3J
import Derived.Test.YtalmflikdnflfaaGreatMacOkIJ
import Derived.Test.YtalmflikdnflfaaGreatJ30ExactFind
import Derived.Test.YtalmflikdnflfaaGreatJ37ExactFind
import Derived.WalkKit
import Derived.WalkSpells
import Derived.WalkLawsBesides
import Derived.Below
import Derived.Lib.QuietBelow
import Derived.BigQuiet
import Derived.Deep.CutRange
import Derived.Stop.Asserts
/- Members of a cluster: whether they live, where a copy is. -/
namespace Go.Proofs.YtalmflikdnflfaaGreat
open Go.RowKit
open Go.Sort (grow)
/-- What the function answers of each element, wherever it lies. -/
def idxCelF (w : World) (n : Nat) (rs : List K2) (g : Nat) (f : Nat → Bool) : Prop :=
  ∀ (X : World) (i : Nat) (a' : Option Addr) (cap' : Nat), Below w.heap.size w X → i < n → SlC X X.heap.size a' (atK rs i).cells.length (atK rs i).cells → Calls Tryz.prog 268 #[(atK rs i).val a' cap', .pointer (some ⟨g, 0, none⟩)] X fun e w' => e = .returned (.bool (f i)) ∧ Below X.heap.size X w'
set_option maxHeartbeats 2000000 in
theorem idxCel (w : World) (a : Option Addr) (n cap : Nat) (rs : List K2) (g : Nat) (f : Nat → Bool) (hn : n ≤ maxLen) (hs : SlK w w.heap.size a n rs) (hf : idxCelF w n rs g f) :
    Calls Tryz.prog 221 #[.slice a n cap, .func (.func 268) #[] #[.pointer (some ⟨g, 0, none⟩)]] w fun e w' => (∃ i : Int, e = .returned (.int .i64 i) ∧ FirstAt f n i) ∧ Below w.heap.size w w' := by
  unfold maxLen at hn
  obtain ⟨hx, hs⟩ := hs
  have HF := hidOf hf
  clear hf
  go_enter Tryz.func221, Tryz.ntmps221
  go_wp2
  go_loopw [8] (fun v wr => ∃ j : Nat, j ≤ n ∧ v = .int .i64 j ∧ Below w.heap.size w wr ∧ ∀ i, i < j → f i = false) (fun v _ => n - (intOf v).toNat)
  case atStart => exact ⟨0, Nat.zero_le _, rfl, Below.refl _ _, fun i h => absurd h (by omega)⟩
  case round =>
    obtain ⟨j, hj, rfl, hbl, hall⟩ := hrel
    by_cases hlt : j < n
    · rcases hs with hs | ⟨b, off, rfl, hb, h1⟩
      · omega
      · have hr := (h1 j _ (atK_of (by omega))).below hbl hb
        have c0 := hr.c0
        obtain ⟨a', cap', c1, hsl, hcp⟩ := hr.c1
        have KA : Hid ((∀ i, i < j → f i = false) ∧ Below w.heap.size w wr) := ⟨hall, hbl⟩
        have hw := HF.out wr j a' cap' hbl hlt (hsl.mono hbl.size)
        simp only [K2.val] at hw
        clear h1 hr hall hsl hbl hcp
        generalize (atK rs j).cells.length = ln at *
        cases hp : f j with
        | true =>
          rw [hp] at hw
          go_wp2_with fail
          refine hw.mono ?_
          clear hw
          rintro e w1 ⟨rfl, b1⟩
          go_wp2
          go_ret
          exact ⟨⟨_, rfl, .inr ⟨j, rfl, hlt, hp, KA.out.1⟩⟩, KA.out.2.trans (b1.mono KA.out.2.size)⟩
        | false =>
          rw [hp] at hw
          go_wp2_with fail
          refine hw.mono ?_
          clear hw
          rintro e w1 ⟨rfl, b1⟩
          go_wp2
          exact ⟨⟨j + 1, by omega, by simp, KA.out.2.trans (b1.mono KA.out.2.size), fun i hi => by
            by_cases e : i = j
            · rw [e]; exact hp
            · exact KA.out.1 i (by omega)⟩, by simp [intOf]; omega⟩
    · have : j = n := by omega
      subst this
      have hd : decide ((j : Int) < (j : Int)) = false := by simp
      have KA : Hid (∀ i, i < j → f i = false) := hall
      clear hs hall
      go_wp2
      go_ret
      exact ⟨⟨_, rfl, .inl ⟨rfl, KA.out⟩⟩, hbl⟩

theorem mach_six {m : M4} (h : machB m = true) : ∀ c ∈ m.copies, c.cells.length = 6 := by
  simp only [machB, Bool.and_eq_true, decide_eq_true_eq] at h
  obtain ⟨⟨⟨⟨⟨h1, h2⟩, h3⟩, _⟩, h4⟩, h5⟩ := h
  intro c hc
  obtain ⟨i, hi, rfl⟩ := List.getElem_of_mem hc
  have := List.all_eq_true.1 h4 i (List.mem_range.2 hi)
  simp only [copB, atK, List.getElem?_eq_getElem hi, Option.getD_some, Bool.and_eq_true, cellsB, decide_eq_true_eq] at this
  exact this.1.2.1
/-- A machine as its cluster sees it. -/
def memV (m : M4) (a : Option Addr) (c : Nat) : Value := if m.alive then .iface 159 (.agg #[.slice a m.copies.length c]) else .iface 161 (.agg #[])
set_option maxHeartbeats 1000000 in
theorem memberOf_any (w : World) (m0 : Option Addr) (m1 : Nat) (m2 : Option Addr) (m3 : Nat) (m4 : Option Addr) (m5 : Nat) (m : M4) : Calls Tryz.prog 67 #[.agg #[.bool m.alive, .slice m0 m.copies.length m1, .slice m2 m.log.length m3, .slice m4 m.cleared.length m5]] w fun e w' => e = .returned (memV m m0 m1) ∧ Below w.heap.size w w' := by
  cases ha : m.alive with
  | true =>
    have hv : memV m m0 m1 = .iface 159 (.agg #[.slice m0 m.copies.length m1]) := by simp [memV, ha]
    rw [hv]
    clear hv
    go_enter Tryz.func67, Tryz.ntmps67
    go_wp2
    go_ret
    exact ⟨rfl, (Below.refl _ _).alloc (Nat.le_refl _) _⟩
  | false =>
    have hv : memV m m0 m1 = .iface 161 (.agg #[]) := by simp [memV, ha]
    rw [hv]
    clear hv
    go_enter Tryz.func67, Tryz.ntmps67
    go_wp2
    go_ret
    exact ⟨rfl, (Below.refl _ _).alloc (Nat.le_refl _) _⟩
set_option maxHeartbeats 1000000 in
theorem livesL_any (w : World) (a : Option Addr) (n c : Nat) : Calls Tryz.prog 267 #[.agg #[.slice a n c]] w fun e w' => e = .returned (.bool true) ∧ Below w.heap.size w w' := by
  go_enter Tryz.func267, Tryz.ntmps267
  go_wp2
  go_ret
  exact ⟨rfl, (Below.refl _ _).alloc (Nat.le_refl _) _⟩
set_option maxHeartbeats 1000000 in
theorem livesD_any (w : World) : Calls Tryz.prog 270 #[.agg #[]] w fun e w' => e = .returned (.bool false) ∧ Below w.heap.size w w' := by
  go_enter Tryz.func270, Tryz.ntmps270
  go_wp2
  go_ret
  exact ⟨rfl, (Below.refl _ _).alloc (Nat.le_refl _) _⟩
set_option maxHeartbeats 1000000 in
theorem such_any (w : World) (x y : Int) (a : Option Addr) (n c g : Nat) (hg : w.cell? ⟨g, 0, none⟩ = some (.int .i64 y)) (hgl : g < w.heap.size) : Calls Tryz.prog 268 #[.agg #[.int .i64 x, .slice a n c], .pointer (some ⟨g, 0, none⟩)] w fun e w' => e = .returned (.bool (decide (x = y))) ∧ Below w.heap.size w w' := by
  have b0 : Below w.heap.size w (w.alloc (.cells #[.int .i64 x, .slice a n c] 100)) := (Below.refl _ _).alloc (Nat.le_refl _) _
  have p0 := (b0.cell (p := ⟨g, 0, none⟩) hgl).trans hg
  have he : (x == y) = decide (x = y) := by by_cases h : x = y <;> simp [h]
  have KB := hidOf b0
  clear b0 hg hgl
  go_enter Tryz.func268, Tryz.ntmps268
  go_wp2
  go_ret
  exact ⟨by rw [← he]; rfl, KB.out⟩
end Go.Proofs.YtalmflikdnflfaaGreat
/- A member asked for its cells; whether it serves a region. -/
namespace Go.Proofs.YtalmflikdnflfaaGreat
open Go.RowKit
open Go.Sort (grow)
/-- What a living machine answers when it is asked for its cells. -/
def CelAns (w w' : World) (m : M4) (y : Int) (e : Ending) : Prop :=
  (hasC m y = false ∧ e = .returned (.tuple #[.slice none 0 0, .bool false])) ∨
  (hasC m y = true ∧ ∃ i q cp : Nat, idxC m y = (i : Int) ∧ i < m.copies.length ∧ e = .returned (.tuple #[.slice (some ⟨q, 0, none⟩) (atK m.copies i).cells.length cp, .bool true]) ∧ w.heap.size ≤ q ∧ q < w'.heap.size ∧ (atK m.copies i).cells.length ≤ cp ∧ CellsAt w' q 0 (atK m.copies i).cells ∧ Room w' q ((atK m.copies i).cells.length * 2))
theorem CelAns.up {A w w' : World} {m : M4} {y : Int} {e : Ending} (h : CelAns w w' m y e) (hA : A.heap.size ≤ w.heap.size) : CelAns A w' m y e := by
  rcases h with h | ⟨h, i, q, cp, h1, h2, h3, h4, h5⟩
  · exact .inl h
  · exact .inr ⟨h, i, q, cp, h1, h2, h3, Nat.le_trans hA h4, h5⟩
set_option maxRecDepth 100000 in
set_option maxHeartbeats 2000000 in
theorem cells_any (w : World) (a : Option Addr) (c : Nat) (m : M4) (y : Int) (hl : ML m) (hB : machB m = true) (hs : SlK w w.heap.size a m.copies.length m.copies) :
    Calls Tryz.prog 266 #[.agg #[.slice a m.copies.length c], .int .i64 y] w fun e w' => CelAns w w' m y e ∧ Below w.heap.size w w' := by
  have hn := hl.k
  obtain ⟨U, hU⟩ : ∃ Y, Y = (w.alloc (.cells #[.slice a m.copies.length c] 159)).alloc (.cells #[.int .i64 y] 2) := ⟨_, rfl⟩
  have b0 : Below w.heap.size w U := by rw [hU]; exact ((Below.refl _ _).alloc (Nat.le_refl _) _).alloc (by simp) _
  have z0 : U.heap.size = w.heap.size + 2 := by rw [hU]; simp
  have p0 : U.cell? ⟨w.heap.size, 0, none⟩ = some (.slice a m.copies.length c) := by rw [hU]; go_simp
  have p1 : U.cell? ⟨w.heap.size + 1, 0, none⟩ = some (.int .i64 y) := by rw [hU]; go_simp
  have hc := idxCel U a m.copies.length c m.copies (w.heap.size + 1) (fun j => decide ((atK m.copies j).region = y)) hn (hs.later b0)
    (fun X i a' c' hb hi hsl => such_any X (atK m.copies i).region y a' _ c' (w.heap.size + 1) ((hb.cell (p := ⟨w.heap.size + 1, 0, none⟩) (by simp; omega)).trans p1) (by have := hb.size; omega))
  have H : Hid (Below w.heap.size w U ∧ U.heap.size = w.heap.size + 2 ∧ SlK U U.heap.size a m.copies.length m.copies) := ⟨b0, z0, hs.later b0⟩
  have P0 := hidOf p0
  clear b0 z0 hs p1
  unfold maxLen at hn
  rw [hU] at p0
  go_enter Tryz.func266, Tryz.ntmps266
  go_wp2_with fail
  rw [← hU]
  clear hU p0
  refine hc.mono ?_
  clear hc
  rintro e w1 ⟨⟨i, rfl, hi⟩, b1⟩
  have hii := first_un hi (idxC_first m y)
  have hlt := idxC_lt m y
  rw [← hii] at hlt
  have B1 := hidOf b1
  cases hh : hasC m y with
  | false =>
    rw [hh] at hlt
    have d : decide (i < 0) = true := hlt
    clear hlt hi hii b1
    go_wp2
    refine bodyPost_ret (v := .tuple #[.slice none 0 0, .bool false]) (by simp [results, Tryz.results266, go_sem]) rfl ?_
    exact ⟨.inl ⟨hh, rfl⟩, bstep H.out.1 B1.out⟩
  | true =>
    rw [hh] at hlt
    have d : decide (i < 0) = false := hlt
    rcases hi with ⟨rfl, _⟩ | ⟨j, rfl, hj, _, _⟩
    · simp at d
    obtain ⟨_, hk⟩ := H.out.2.2
    rcases hk with hk | ⟨b, off, rfl, hb, h1⟩
    · omega
    have q0 := (b1.cell (p := ⟨w.heap.size, 0, none⟩) (by have := H.out.2.1; simp; omega)).trans P0.out
    have hr := (h1 j _ (atK_of hj)).below b1 hb
    obtain ⟨a', cap', c1, hsl, hcp⟩ := hr.c1
    have hlen : (atK m.copies j).cells.length = 6 := mach_six hB _ (List.mem_of_getElem? (atK_of hj))
    have ho := ownCells_any w1 a' cap' (atK m.copies j).cells (by omega) (by omega) (hsl.mono b1.size)
    have HJ : Hid (idxC m y = (j : Int) ∧ j < m.copies.length ∧ hasC m y = true) := ⟨hii.symm, hj, hh⟩
    clear hlt hii b1 h1 hr hsl hcp hlen hB
    go_wp2_with fail
    refine ho.mono ?_
    clear ho q0 c1
    rintro e w2 ⟨q, cp, rfl, h2, h3, h4, h5, h6, b2⟩
    have HF : Hid (w1.heap.size ≤ q ∧ q < w2.heap.size ∧ (atK m.copies j).cells.length ≤ cp ∧ CellsAt w2 q 0 (atK m.copies j).cells ∧ Room w2 q ((atK m.copies j).cells.length * 2)) := ⟨h2, h3, h4, h5, h6⟩
    have B2 : Hid (Below w.heap.size w w2) := bstep (bstep H.out.1 B1.out) b2
    have S1 : Hid (w.heap.size ≤ w1.heap.size) := (bstep H.out.1 B1.out).size
    clear b2 h2 h3 h4 h5 h6
    go_wp2
    refine bodyPost_ret (v := .tuple #[.slice (some ⟨q, 0, none⟩) (atK m.copies j).cells.length cp, .bool true]) (by simp [results, Tryz.results266, go_sem]) rfl ?_
    exact ⟨.inr ⟨HJ.out.2.2, j, q, cp, HJ.out.1, HJ.out.2.1, rfl, Nat.le_trans S1.out HF.out.1, HF.out.2⟩, B2.out⟩
theorem holderU : Tryz.prog.underlying 155 = some (.interface #[("loop.example/g00153/impl.cells", 157), ("loop.example/g00153/impl.lives", 173)]) := by kernel_rfl
set_option maxRecDepth 100000 in
set_option maxHeartbeats 2000000 in
theorem askCells_any (w : World) (a : Option Addr) (c : Nat) (m : M4) (y : Int) (hl : ML m) (hB : machB m = true) (hs : SlK w w.heap.size a m.copies.length m.copies) :
    Calls Tryz.prog 66 #[memV m a c, .int .i64 y] w fun e w' => ((m.alive = true ∧ CelAns w w' m y e) ∨ (m.alive = false ∧ e = .returned (.tuple #[.slice none 0 0, .bool false]))) ∧ Below w.heap.size w w' := by
  cases ha : m.alive with
  | true =>
    have hv : memV m a c = .iface 159 (.agg #[.slice a m.copies.length c]) := by simp [memV, ha]
    rw [hv]
    have ht : ∀ w : World, (Instr.typeAssert (.iface 159 (.agg #[.slice a m.copies.length c])) 104 155 true).run Tryz.prog w = .ok (.tuple #[.iface 159 (.agg #[.slice a m.copies.length c]), .bool true]) w := fun w => run_typeAssert_hasB holderU (by kernel_rfl) _ _ w
    have hm : ∀ w : World, (method 399 159 (.agg #[.slice a m.copies.length c]) "loop.example/g00153/impl.cells").run Tryz.prog w = .ok (266, .agg #[.slice a m.copies.length c]) w := fun _ => by kernel_rfl
    have hc := cells_any w a c m y hl hB hs
    clear hv hl hB hs ha
    go_enter Tryz.func66, Tryz.ntmps66
    go_wp2_with fail
    refine hc.mono ?_
    clear hc
    rintro e w1 ⟨h1, b1⟩
    have H1 := hidOf h1
    have B1 := hidOf b1
    clear b1
    rcases h1 with ⟨_, rfl⟩ | ⟨_, i, q, cp, _, _, rfl, _⟩
    · go_wp2
      refine bodyPost_ret (v := .tuple #[.slice none 0 0, .bool false]) (by simp [results, Tryz.results66, go_sem]) rfl ?_
      exact ⟨.inl ⟨trivial, H1.out⟩, B1.out⟩
    · go_wp2
      refine bodyPost_ret (v := .tuple #[.slice (some ⟨q, 0, none⟩) (atK m.copies i).cells.length cp, .bool true]) (by simp [results, Tryz.results66, go_sem]) rfl ?_
      exact ⟨.inl ⟨trivial, H1.out⟩, B1.out⟩
  | false =>
    have hv : memV m a c = .iface 161 (.agg #[]) := by simp [memV, ha]
    rw [hv]
    have ht : ∀ w : World, (Instr.typeAssert (.iface 161 (.agg #[])) 104 155 true).run Tryz.prog w = .ok (.tuple #[.nilIface, .bool false]) w := fun w => run_typeAssert_lacksB holderU (by kernel_rfl) (by kernel_rfl) _ _ w
    clear hv hl hB hs ha
    go_enter Tryz.func66, Tryz.ntmps66
    go_wp2
    refine bodyPost_ret (v := .tuple #[.slice none 0 0, .bool false]) (by simp [results, Tryz.results66, go_sem]) rfl ?_
    exact ⟨.inr ⟨trivial, rfl⟩, Below.refl _ _⟩
set_option maxRecDepth 100000 in
set_option maxHeartbeats 2000000 in
theorem serves_any (w : World) (a : Option Addr) (c : Nat) (m : M4) (y : Int) (hl : ML m) (hB : machB m = true) (hs : SlK w w.heap.size a m.copies.length m.copies) :
    Calls Tryz.prog 94 #[memV m a c, .int .i64 y] w fun e w' => e = .returned (.bool (!m.alive || hasC m y)) ∧ Below w.heap.size w w' := by
  have hc := askCells_any w a c m y hl hB hs
  clear hl hB hs
  cases ha : m.alive with
  | true =>
    have hv : memV m a c = .iface 159 (.agg #[.slice a m.copies.length c]) := by simp [memV, ha]
    rw [hv] at hc ⊢
    have hm : ∀ w : World, (method 399 159 (.agg #[.slice a m.copies.length c]) "loop.example/g00153/impl.lives").run Tryz.prog w = .ok (267, .agg #[.slice a m.copies.length c]) w := fun _ => by kernel_rfl
    have HA := hidOf ha
    clear hv ha
    go_enter Tryz.func94, Tryz.ntmps94
    go_wp2_with fail
    refine hc.mono ?_
    clear hc
    rintro e w1 ⟨h1, b1⟩
    have B1 := hidOf b1
    have hL := livesL_any w1 a m.copies.length c
    clear b1
    rcases h1 with ⟨_, h1⟩ | ⟨h1, _⟩
    case inr => rw [HA.out] at h1; cases h1
    rcases h1 with ⟨hh, rfl⟩ | ⟨hh, i, q, cp, _, _, rfl, _⟩
    · have HH := hidOf hh
      clear hh
      go_wp2_with fail
      refine hL.mono ?_
      clear hL
      rintro e w2 ⟨rfl, b2⟩
      have B2 : Hid (Below w.heap.size w w2) := bstep B1.out b2
      clear b2
      go_wp2
      go_ret
      exact ⟨by rw [HH.out]; rfl, B2.out⟩
    · have HH := hidOf hh
      clear hh hL
      go_wp2
      go_ret
      exact ⟨by rw [HH.out]; rfl, B1.out⟩
  | false =>
    have hv : memV m a c = .iface 161 (.agg #[]) := by simp [memV, ha]
    rw [hv] at hc ⊢
    have hm : ∀ w : World, (method 399 161 (.agg #[]) "loop.example/g00153/impl.lives").run Tryz.prog w = .ok (270, .agg #[]) w := fun _ => by kernel_rfl
    have HA := hidOf ha
    clear hv ha
    go_enter Tryz.func94, Tryz.ntmps94
    go_wp2_with fail
    refine hc.mono ?_
    clear hc
    rintro e w1 ⟨h1, b1⟩
    have B1 := hidOf b1
    have hL := livesD_any w1
    clear b1
    rcases h1 with ⟨h1, _⟩ | ⟨_, rfl⟩
    · rw [HA.out] at h1; cases h1
    go_wp2_with fail
    refine hL.mono ?_
    clear hL
    rintro e w2 ⟨rfl, b2⟩
    have B2 : Hid (Below w.heap.size w w2) := bstep B1.out b2
    clear b2
    go_wp2
    go_ret
    exact ⟨rfl, B2.out⟩
end Go.Proofs.YtalmflikdnflfaaGreat
