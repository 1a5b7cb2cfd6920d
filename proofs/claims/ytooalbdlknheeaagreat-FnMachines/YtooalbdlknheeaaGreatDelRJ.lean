/- slices.DeleteFunc over records: what stays is moved down, the rest is cleared. -/
import Derived.Test.YtooalbdlknheeaaGreatRows
import Derived.Test.YtooalbdlknheeaaGreatLogIJ
import Derived.Test.YtooalbdlknheeaaGreatJ21LawMachines
import Derived.WalkKit
import Derived.WalkSpells
import Derived.WalkLawsBesides
import Derived.Below
import Derived.Lib.QuietBelow
import Derived.BigQuiet
import Derived.Deep.CutRange
namespace Go.Proofs.YtooalbdlknheeaaGreat
open Go.RowKit
open Go.Sort (grow)
/-- What the function answers of each element, wherever it lies. -/
def idxStrF (w : World) (n : Nat) (rs : List R4) (g1 : Nat) (g2 : Nat) (f : Nat → Bool) : Prop :=
  ∀ (X : World) (i : Nat) (a' : Option Addr) (cap' : Nat), Below w.heap.size w X → i < n → Sl X X.heap.size a' (atR rs i).sets.length (atR rs i).sets → Calls Tryz.prog 145 #[(atR rs i).val a' cap', .pointer (some ⟨g1, 0, none⟩), .pointer (some ⟨g2, 0, none⟩)] X fun e w' => e = .returned (.bool (f i)) ∧ Below X.heap.size X w'
set_option maxHeartbeats 2000000 in
theorem idxStr (w : World) (a : Option Addr) (n cap : Nat) (rs : List R4) (g1 : Nat) (g2 : Nat) (f : Nat → Bool) (hn : n ≤ maxLen) (hs : SlR w w.heap.size a n rs) (hf : idxStrF w n rs g1 g2 f) :
    Calls Tryz.prog 142 #[.slice a n cap, .func (.func 145) #[] #[.pointer (some ⟨g1, 0, none⟩), .pointer (some ⟨g2, 0, none⟩)]] w fun e w' => (∃ i : Int, e = .returned (.int .i64 i) ∧ FirstAt f n i) ∧ Below w.heap.size w w' := by
  unfold maxLen at hn
  obtain ⟨hx, hs⟩ := hs
  have HF := hidOf hf
  clear hf
  go_enter Tryz.func142, Tryz.ntmps142
  go_wp2
  go_loopw [8] (fun v wr => ∃ j : Nat, j ≤ n ∧ v = .int .i64 j ∧ Below w.heap.size w wr ∧ ∀ i, i < j → f i = false) (fun v _ => n - (intOf v).toNat)
  case atStart => exact ⟨0, Nat.zero_le _, rfl, Below.refl _ _, fun i h => absurd h (by omega)⟩
  case round =>
    obtain ⟨j, hj, rfl, hbl, hall⟩ := hrel
    by_cases hlt : j < n
    · rcases hs with hs | ⟨b, off, rfl, hb, h1⟩
      · omega
      · have hr := (h1 j _ (atR_of (by omega))).below hbl hb
        have c0 := hr.c0
        have c1 := hr.c1
        have c2 := hr.c2
        obtain ⟨a', cap', c3, hsl, hcp⟩ := hr.c3
        have KA : Hid ((∀ i, i < j → f i = false) ∧ Below w.heap.size w wr) := ⟨hall, hbl⟩
        have hw := HF.out wr j a' cap' hbl hlt (hsl.mono hbl.size)
        simp only [R4.val] at hw
        clear h1 hr hall hsl hbl hcp
        generalize (atR rs j).sets.length = ln at *
        cases hp : f j with
        | true =>
          rw [hp] at hw
          go_wp2_with fail
          refine hw.mono ?_
          clear hw
          rintro e w1 ⟨rfl, b1⟩
          go_wp2
          go_ret
          exact ⟨⟨_, rfl, .inr ⟨j, rfl, hlt, hp, KA.out.1⟩⟩, KA.out.2.trans (b1.mono KA.out.2.size)⟩
        | false =>
          rw [hp] at hw
          go_wp2_with fail
          refine hw.mono ?_
          clear hw
          rintro e w1 ⟨rfl, b1⟩
          go_wp2
          exact ⟨⟨j + 1, by omega, by simp, KA.out.2.trans (b1.mono KA.out.2.size), fun i hi => by
            by_cases e : i = j
            · rw [e]; exact hp
            · exact KA.out.1 i (by omega)⟩, by simp [intOf]; omega⟩
    · have : j = n := by omega
      subst this
      have hd : decide ((j : Int) < (j : Int)) = false := by simp
      have KA : Hid (∀ i, i < j → f i = false) := hall
      clear hs hall
      go_wp2
      go_ret
      exact ⟨⟨_, rfl, .inl ⟨rfl, KA.out⟩⟩, hbl⟩

/-- 'clear(s)', s a slice of n > 0 elements of any cells: they hold the zero value's. -/
theorem run_clear_any {P : Program} (w : World) (t e ty : TypeId) (z : Value) (ht : P.underlying t = some (.slice e)) (hv : ∀ w, (zeroValue e).run P w = .ok z w) (h0 : 0 < z.cells.size) (h1 : ∀ u ∈ z.cells, u.oneCell' = true) (b o n c : Nat) (hn : 0 < n)
    (hc : ∀ j, j < n * z.cells.size → (w.cell? ⟨b, o + j, none⟩).isSome = true) (hf : ∀ j, j < n * z.cells.size → w.frozen? ⟨b, o + j, none⟩ = false) :
    (Builtin.clear_ #[t] ty #[.slice (some ⟨b, o, none⟩) n c]).run P w = .ok (.tuple #[]) (w.setCells b o (Builtin.zeroCells z.cells n).toList) := by
  have hl : (Builtin.zeroCells z.cells n).toList.length = n * z.cells.size := by simp [Builtin.zeroCells]
  have hst := run_storeCells_cells (P := P) b o (Builtin.zeroCells z.cells n).toList 0 w (by rw [hl]; simpa using hc) (by rw [hl]; simpa using hf) (by
    intro v hv'
    simp only [Builtin.zeroCells, Array.toList_map, List.mem_map] at hv'
    obtain ⟨i, _, rfl⟩ := hv'
    have hi : i % z.cells.size < z.cells.size := Nat.mod_lt _ h0
    rw [getElem!_pos z.cells _ hi]
    exact h1 _ (Array.getElem_mem hi))
  simp only [Nat.add_zero] at hst
  obtain ⟨m, rfl⟩ : ∃ m, n = m + 1 := ⟨n - 1, by omega⟩
  simp [Builtin.clear_, run_underlying ht, hv, hst]
/-- Block b is a row of m cells, none frozen. -/
def Blk (X : World) (b : Nat) (T : TypeId) (m : Nat) : Prop := ∃ cur, X.heap[b]? = some (.cells cur T (0, 0)) ∧ cur.size = m
theorem Blk.set {X : World} {b m : Nat} {T : TypeId} (h : Blk X b T m) (o : Nat) (u : Value) : Blk (X.setCell ⟨b, o, none⟩ u) b T m := by
  obtain ⟨cur, h1, h2⟩ := h
  exact ⟨cur.setIfInBounds o u, by simp [World.setCell, Array.getElem?_modify, h1], by simp [h2]⟩
theorem Blk.put {b m : Nat} {T : TypeId} (cs : List Value) : ∀ {X : World} (i : Nat), Blk X b T m → Blk (putB X b i cs) b T m := by
  induction cs with
  | nil => intro X i h; exact h
  | cons c cs ih => intro X i h; exact ih _ (h.set _ _)
theorem Blk.keep {X Y : World} {b m : Nat} {T : TypeId} (h : Blk X b T m) (hb : Y.heap[b]? = X.heap[b]?) : Blk Y b T m := by
  obtain ⟨cur, h1, h2⟩ := h
  exact ⟨cur, hb.trans h1, h2⟩
theorem Blk.room {X : World} {b m : Nat} {T : TypeId} (h : Blk X b T m) : Room X b m := by
  obtain ⟨cur, h1, h2⟩ := h
  intro j hj
  have hj' : j < cur.size := by omega
  exact ⟨cur[j], by simp [World.cell?, h1, Array.getElem?_eq_getElem hj'], by simp [World.frozen?, h1]⟩
theorem setCells_put (b : Nat) (cs : List Value) : ∀ (X : World) (i : Nat), X.setCells b i cs = putB X b i cs := by
  induction cs with
  | nil => intro X i; rfl
  | cons c cs ih => intro X i; exact ih _ _
theorem Turned.putR {b : Nat} {w : World} (cs : List Value) : ∀ {X : World} (i : Nat), Turned b w X → Turned b w (putB X b i cs) := by
  induction cs with
  | nil => intro X i h; exact h
  | cons c cs ih => intro X i h; exact ih _ (h.setCell _ _)
/-- Which of the first n stay. -/
def keepI (f : Nat → Bool) (n : Nat) : List Nat := (List.range n).filter fun t => !f t
theorem keepI_off {f : Nat → Bool} {j : Nat} (h : f j = true) : keepI f (j + 1) = keepI f j := by simp [keepI, List.range_succ, h]
theorem keepI_on {f : Nat → Bool} {j : Nat} (h : f j = false) : keepI f (j + 1) = keepI f j ++ [j] := by simp [keepI, List.range_succ, h]
theorem keepI_le (f : Nat → Bool) (j : Nat) : (keepI f j).length ≤ j := by
  have := List.length_filter_le (fun t => !f t) (List.range j)
  simpa [keepI] using this
theorem keepI_all {f : Nat → Bool} {n : Nat} (h : ∀ i, i < n → f i = false) : keepI f n = List.range n := by
  unfold keepI
  rw [List.filter_eq_self]
  intro t ht
  simp [h t (List.mem_range.1 ht)]
theorem keepI_lt {f : Nat → Bool} {n t i : Nat} (h : (keepI f n)[t]? = some i) : i < n := by
  have := List.mem_of_getElem? h
  simp only [keepI, List.mem_filter, List.mem_range] at this
  exact this.1
def rc (r : R4) (a : Option Addr) (p : Nat) : List Value := [.int .i64 r.kind, .int .i64 r.tx, .int .i64 r.region, .slice a r.sets.length p]
set_option maxHeartbeats 1000000 in
theorem strike1_any (w : World) (r : R4) (a : Option Addr) (cap : Nat) (t g : Int) (g1 g2 : Nat) (h1 : w.cell? ⟨g1, 0, none⟩ = some (.int .i64 t)) (h2 : w.cell? ⟨g2, 0, none⟩ = some (.int .i64 g)) (l1 : g1 < w.heap.size) (l2 : g2 < w.heap.size) :
    Calls Tryz.prog 145 #[.agg #[.int .i64 r.kind, .int .i64 r.tx, .int .i64 r.region, .slice a r.sets.length cap], .pointer (some ⟨g1, 0, none⟩), .pointer (some ⟨g2, 0, none⟩)] w fun e w' => e = .returned (.bool (ofB t g r)) ∧ Below w.heap.size w w' := by
  obtain ⟨W, hW⟩ : ∃ W, W = w.alloc (.cells #[.int .i64 r.kind, .int .i64 r.tx, .int .i64 r.region, .slice a r.sets.length cap] 41) := ⟨_, rfl⟩
  have b0 : Below w.heap.size w W := by rw [hW]; exact (Below.refl _ _).alloc (Nat.le_refl _) _
  have p1 := (b0.cell (p := ⟨g1, 0, none⟩) l1).trans h1
  have p2 := (b0.cell (p := ⟨g2, 0, none⟩) l2).trans h2
  have hc := ofRegion_any W r a cap t g
  simp only [R4.val] at hc
  have KB := hidOf b0
  rw [hW] at p1 p2
  clear b0 h1 h2 l1 l2
  go_enter Tryz.func145, Tryz.ntmps145
  go_wp2_with fail
  rw [← hW]
  clear hW p1 p2
  refine hc.mono ?_
  clear hc
  rintro e w1 ⟨rfl, b1⟩
  have KC : Hid (Below w.heap.size w w1) := bstep KB.out b1
  clear b1
  go_wp2
  go_ret
  exact ⟨rfl, KC.out⟩
theorem zeroRec : ∀ w : World, (zeroValue 41).run Tryz.prog w = .ok (.agg #[.int .i64 0, .int .i64 0, .int .i64 0, .slice none 0 0]) w := fun _ => by kernel_rfl
set_option maxRecDepth 100000 in
set_option maxHeartbeats 4000000 in
theorem delete_any (w : World) (b n cap m : Nat) (rs : List R4) (ads : Nat → Option Addr) (ps : Nat → Nat) (t g : Int) (g1 g2 : Nat) (hn : n ≤ 1000) (hlen : rs.length = n) (hcap : n ≤ cap) (hb : b < w.heap.size) (hB : Blk w b 41 m) (hm : n * 4 ≤ m)
    (hrow : ∀ i, i < n → At w b (i * 4) (rc (atR rs i) (ads i) (ps i))) (hs : SlR w w.heap.size (some ⟨b, 0, none⟩) n rs) (h1 : w.cell? ⟨g1, 0, none⟩ = some (.int .i64 t)) (h2 : w.cell? ⟨g2, 0, none⟩ = some (.int .i64 g)) (l1 : g1 < w.heap.size) (l2 : g2 < w.heap.size) (n1 : g1 ≠ b) (n2 : g2 ≠ b) :
    Calls Tryz.prog 146 #[.slice (some ⟨b, 0, none⟩) n cap, .func (.func 145) #[] #[.pointer (some ⟨g1, 0, none⟩), .pointer (some ⟨g2, 0, none⟩)]] w fun e w' => e = .returned (.slice (some ⟨b, 0, none⟩) (keepI (fun i => ofB t g (atR rs i)) n).length cap) ∧ Turned b w w' ∧ Blk w' b 41 m ∧ (∀ s i, (keepI (fun i => ofB t g (atR rs i)) n)[s]? = some i → At w' b (s * 4) (rc (atR rs i) (ads i) (ps i))) := by
  obtain ⟨f, hf⟩ : ∃ f : Nat → Bool, f = fun i => ofB t g (atR rs i) := ⟨_, rfl⟩
  have HC : Hid (∀ (X : World) (j : Nat), Turned b w X → Calls Tryz.prog 145 #[.agg #[.int .i64 (atR rs j).kind, .int .i64 (atR rs j).tx, .int .i64 (atR rs j).region, .slice (ads j) (atR rs j).sets.length (ps j)], .pointer (some ⟨g1, 0, none⟩), .pointer (some ⟨g2, 0, none⟩)] X fun e w' => e = .returned (.bool (f j)) ∧ Below X.heap.size X w') := fun X j hX => by
    rw [hf]
    exact strike1_any X (atR rs j) (ads j) (ps j) t g g1 g2 ((hX.cell (p := ⟨g1, 0, none⟩) l1 n1).trans h1) ((hX.cell (p := ⟨g2, 0, none⟩) l2 n2).trans h2) (Nat.lt_of_lt_of_le l1 hX.size) (Nat.lt_of_lt_of_le l2 hX.size)
  have hc := idxStr w (some ⟨b, 0, none⟩) n cap rs g1 g2 f (by unfold maxLen; omega) hs (fun X i a' c' hX hi hsl => by
    have := strike1_any X (atR rs i) a' c' t g g1 g2 ((hX.cell (p := ⟨g1, 0, none⟩) l1).trans h1) ((hX.cell (p := ⟨g2, 0, none⟩) l2).trans h2) (Nat.lt_of_lt_of_le l1 hX.size) (Nat.lt_of_lt_of_le l2 hX.size)
    rw [hf]
    exact this)
  rw [← hf]
  have H : Hid (b < w.heap.size ∧ Blk w b 41 m ∧ (∀ i, i < n → At w b (i * 4) (rc (atR rs i) (ads i) (ps i)))) := ⟨hb, hB, hrow⟩
  clear hf hs h1 h2 l1 l2 n1 n2 hlen hB hrow hb
  go_enter Tryz.func146, Tryz.ntmps146
  go_wp2_with fail
  refine hc.mono ?_
  clear hc
  rintro e w1 ⟨⟨i0, rfl, hi0⟩, b1⟩
  have B1 := hidOf b1
  clear b1
  rcases hi0 with ⟨rfl, hno⟩ | ⟨k, rfl, hk, hfk, hno⟩
  · have HA : Hid (keepI f n = List.range n) := keepI_all hno
    clear hno
    go_wp2
    go_ret
    refine ⟨by rw [HA.out]; simp, (Turned.refl b w).of_below B1.out, H.out.2.1.keep (B1.out.block b H.out.1), fun s i e => ?_⟩
    rw [HA.out] at e
    have hsi : s < n ∧ i = s := by
      have := (List.getElem?_eq_some_iff.1 e).1
      simp at this
      simp [this] at e
      exact ⟨this, e.symm⟩
    obtain ⟨hsn, rfl⟩ := hsi
    exact (H.out.2.2 i hsn).of_block (B1.out.block b H.out.1)
  · have hke : keepI f (k + 1) = List.range k := by rw [keepI_off hfk, keepI_all hno]
    have dk : ((k : Int) == -1) = false := by simp <;> omega
    have HS : Hid (keepI f (k + 1) = List.range k) := hke
    have HF := hidOf hfk
    clear hke hno hfk
    go_wp2
    go_loopw [5, 6] (fun v5 v6 wr => ∃ j : Nat, k < j ∧ j ≤ n ∧ v6 = .int .i64 j ∧ v5 = .int .i64 ((keepI f j).length : Int) ∧ Turned b w wr ∧ Blk wr b 41 m ∧ (∀ s i, (keepI f j)[s]? = some i → At wr b (s * 4) (rc (atR rs i) (ads i) (ps i))) ∧ (∀ i, j ≤ i → i < n → At wr b (i * 4) (rc (atR rs i) (ads i) (ps i))) ∧ (keepI f j).length < j) (fun _ v6 _ => n - (intOf v6).toNat)
    case atStart =>
      have ob := B1.out.block b H.out.1
      refine ⟨k + 1, by omega, by omega, by simp, by rw [HS.out]; simp, (Turned.refl b w).of_below B1.out, H.out.2.1.keep ob, fun s i e => ?_, fun i _ hi => (H.out.2.2 i hi).of_block ob, by rw [HS.out]; simp⟩
      rw [HS.out] at e
      have hsi : s < k ∧ i = s := by
        have := (List.getElem?_eq_some_iff.1 e).1
        simp at this
        simp [this] at e
        exact ⟨this, e.symm⟩
      obtain ⟨hsn, rfl⟩ := hsi
      exact (H.out.2.2 i (by omega)).of_block ob
    case round =>
      obtain ⟨j, hkj, hj, rfl, rfl, htu, hbk, hlo, hhi, hle⟩ := hrel
      have KH : Hid (Turned b w wr ∧ Blk wr b 41 m ∧ (∀ s i, (keepI f j)[s]? = some i → At wr b (s * 4) (rc (atR rs i) (ads i) (ps i))) ∧ (∀ i, j ≤ i → i < n → At wr b (i * 4) (rc (atR rs i) (ads i) (ps i)))) := ⟨htu, hbk, hlo, hhi⟩
      have hlen : Hid ((keepI f j).length < j) := hle
      obtain ⟨q, hq⟩ : ∃ q, q = (keepI f j).length := ⟨_, rfl⟩
      have HQ := hidOf hq
      rw [← hq] at hle ⊢
      clear htu hbk hlo hhi hq
      by_cases hlt : j < n
      · have hat := KH.out.2.2.2 j (Nat.le_refl _) hlt
        have e0 : wr.cell? ⟨b, j * 4, none⟩ = some (.int .i64 (atR rs j).kind) := hat 0 _ rfl
        have e1 : wr.cell? ⟨b, j * 4 + 1, none⟩ = some (.int .i64 (atR rs j).tx) := hat 1 _ rfl
        have e2 : wr.cell? ⟨b, j * 4 + 2, none⟩ = some (.int .i64 (atR rs j).region) := hat 2 _ rfl
        have e3 : wr.cell? ⟨b, j * 4 + 3, none⟩ = some (.slice (ads j) (atR rs j).sets.length (ps j)) := hat 3 _ rfl
        have jn : (j : Int) < (n : Int) := by omega
        obtain ⟨V, hV⟩ : ∃ Y, Y = wr.alloc (.cells #[.int .i64 (atR rs j).kind, .int .i64 (atR rs j).tx, .int .i64 (atR rs j).region, .slice (ads j) (atR rs j).sets.length (ps j)] 41) := ⟨_, rfl⟩
        have bV : Below wr.heap.size wr V := by rw [hV]; exact (Below.refl _ _).alloc (Nat.le_refl _) _
        have FV : Hid (Bx V wr.heap.size [.int .i64 (atR rs j).kind, .int .i64 (atR rs j).tx, .int .i64 (atR rs j).region, .slice (ads j) (atR rs j).sets.length (ps j)]) := by unfold Hid; rw [hV]; exact Bx.made wr [.int .i64 (atR rs j).kind, .int .i64 (atR rs j).tx, .int .i64 (atR rs j).region, .slice (ads j) (atR rs j).sets.length (ps j)] _
        have hc := HC.out V j (KH.out.1.of_below bV)
        have KV := hidOf bV
        clear hat bV
        cases hfj : f j with
        | true =>
          rw [hfj] at hc
          have HO : Hid (keepI f (j + 1) = keepI f j) := keepI_off hfj
          go_wp2_with fail
          rw [← hV]
          clear hV e0 e1 e2 e3
          refine hc.mono ?_
          clear hc
          rintro e w2 ⟨rfl, b2⟩
          have KB : Hid (Below wr.heap.size wr w2) := bstep KV.out b2
          clear b2
          go_wp2
          have ob := KB.out.block b (Nat.lt_of_lt_of_le H.out.1 KH.out.1.size)
          exact ⟨⟨j + 1, by omega, by omega, by simp, by rw [HO.out, HQ.out], KH.out.1.of_below KB.out, KH.out.2.1.keep ob, fun s i e => (KH.out.2.2.1 s i (by rw [← HO.out]; exact e)).of_block ob, fun i h1 h2 => (KH.out.2.2.2 i (by omega) h2).of_block ob, by rw [HO.out]; have := hlen.out; omega⟩, by simp [intOf]; omega⟩
        | false =>
          rw [hfj] at hc
          have HO : Hid (keepI f (j + 1) = keepI f j ++ [j]) := keepI_on hfj
          go_wp2_with fail
          rw [← hV]
          clear hV e0 e1 e2 e3
          refine hc.mono ?_
          clear hc
          rintro e w2 ⟨rfl, b2⟩
          have KB : Hid (Below wr.heap.size wr w2) := bstep KV.out b2
          have F2 := FV.out.later b2
          have ob := KB.out.block b (Nat.lt_of_lt_of_le H.out.1 KH.out.1.size)
          have hb2 := KH.out.2.1.keep ob
          have hro := hb2.room
          have KR := hidOf hb2
          have p0 := F2.1 0 _ rfl
          have p1 := F2.1 1 _ rfl
          have p2 := F2.1 2 _ rfl
          have p3 := F2.1 3 _ rfl
          obtain ⟨z0, d0, x0⟩ : ∃ v, w2.cell? ⟨b, q * 4, none⟩ = some v ∧ w2.frozen? ⟨b, q * 4, none⟩ = false := hro (q * 4 + 0) (by omega)
          obtain ⟨z1, d1, x1⟩ : ∃ v, w2.cell? ⟨b, q * 4 + 1, none⟩ = some v ∧ w2.frozen? ⟨b, q * 4 + 1, none⟩ = false := hro (q * 4 + 1) (by omega)
          obtain ⟨z2, d2, x2⟩ : ∃ v, w2.cell? ⟨b, q * 4 + 2, none⟩ = some v ∧ w2.frozen? ⟨b, q * 4 + 2, none⟩ = false := hro (q * 4 + 2) (by omega)
          obtain ⟨z3, d3, x3⟩ : ∃ v, w2.cell? ⟨b, q * 4 + 3, none⟩ = some v ∧ w2.frozen? ⟨b, q * 4 + 3, none⟩ = false := hro (q * 4 + 3) (by omega)
          have qn : (q : Int) < (n : Int) := by omega
          clear b2 F2 ob hb2 hro
          go_wp2
          have ob := KB.out.block b (Nat.lt_of_lt_of_le H.out.1 KH.out.1.size)
          have hpu : ∀ o v, (o < q * 4 ∨ q * 4 + 4 ≤ o) → w2.cell? ⟨b, o, none⟩ = some v → (putB w2 b (q * 4) (rc (atR rs j) (ads j) (ps j))).cell? ⟨b, o, none⟩ = some v := fun o v ho hv => (putB_out _ _ _ (by simpa [rc] using ho)).trans hv
          have hty : Turned b w (putB w2 b (q * 4) (rc (atR rs j) (ads j) (ps j))) := Turned.putR _ _ (KH.out.1.of_below KB.out)
          have hbp : Blk (putB w2 b (q * 4) (rc (atR rs j) (ads j) (ps j))) b 41 m := KR.out.put _ _
          have hle' := hlen.out
          refine ⟨⟨j + 1, by omega, by omega, by simp, by rw [HO.out]; simp [HQ.out], hty, hbp, fun s i e => ?_, fun i h1 h2 => ?_, by rw [HO.out]; simp; omega⟩, by simp [intOf]; omega⟩
          · rw [HO.out] at e
            by_cases hs : s < (keepI f j).length
            · rw [List.getElem?_append_left hs] at e
              have ha := (KH.out.2.2.1 s i e).of_block ob
              exact fun x u hu => hpu _ _ (.inl (by have := (List.getElem?_eq_some_iff.1 hu).1; simp [rc] at this; have := HQ.out; omega)) (ha x u hu)
            · have hs' : s = q := by
                have := (List.getElem?_eq_some_iff.1 e).1
                simp at this
                have := HQ.out
                omega
              subst hs'
              rw [List.getElem?_append_right (by omega)] at e
              have hij : i = j := by
                rw [HQ.out] at e
                simp at e
                exact e.symm
              subst hij
              exact fun x u hu => putB_cell _ _ _ (fun y h1 h2 => by
                simp [rc] at h2
                obtain ⟨v, hv, _⟩ := KR.out.room y (by omega)
                exact ⟨v, hv⟩) x u hu
          · have ha := (KH.out.2.2.2 i (by omega) h2).of_block ob
            exact fun x u hu => hpu _ _ (.inr (by have := HQ.out; omega)) (ha x u hu)
      · obtain rfl : j = n := by omega
        have hd : decide ((j : Int) < (j : Int)) = false := by simp
        have hro := KH.out.2.1.room
        have hcl := fun ty => run_clear_any (P := Tryz.prog) wr 25 41 ty _ Tryz.underlying25 zeroRec (by decide) (by decide) b (q * 4) (j - q) (cap - q) (by omega) (fun x hx => by
          obtain ⟨v, hv, _⟩ := hro (q * 4 + x) (by simp [Value.cells] at hx; omega)
          rw [hv]; rfl) (fun x hx => by
          obtain ⟨v, _, hv⟩ := hro (q * 4 + x) (by simp [Value.cells] at hx; omega)
          exact hv)
        clear hro
        go_wp2
        go_ret
        simp only [setCells_put]
        refine ⟨by rw [← HQ.out]; rfl, Turned.putR _ _ KH.out.1, KH.out.2.1.put _ _, fun s i e x u hu => (putB_out _ _ _ (.inl ?_)).trans (KH.out.2.2.1 s i e x u hu)⟩
        have h1 := (List.getElem?_eq_some_iff.1 e).1
        have h2 := (List.getElem?_eq_some_iff.1 hu).1
        simp [rc] at h2
        have := HQ.out
        omega
end Go.Proofs.YtooalbdlknheeaaGreat
