/- MacD; IdxR; Has3; NumOwn; PlOwn: joined. -/
import Derived.Test.YtcbfnajpcaipkaaRows
import Derived.Test.YtcbfnajpcaipkaaJ1ExactNewCluster
import Derived.Test.YtcbfnajpcaipkaaJ0ExactNewCluster
import Derived.Test.YtcbfnajpcaipkaaJ2ExactNewCluster
import Derived.WalkKit
import Derived.WalkSpells
import Derived.WalkLawsBesides
import Derived.Below
import Derived.Lib.QuietBelow
import Derived.BigQuiet
import Derived.Deep.CutRange
import Derived.LaidEql
import Derived.RowKitTokens
import Derived.Maps.AppendAt
import Derived.Laws.OwnMore
import Derived.Deep.AppendLies
namespace Go.Proofs.Ytcbfnajpcaipkaa
open Go.RowKit
structure R4 where
  kind : Int
  tx : Int
  region : Int
  sets : List S5
structure K2 where
  region : Int
  cells : List C2
structure M4 where
  alive : Bool
  copies : List K2
  log : List R4
  cleared : List Int
structure RecAt (w : World) (B b o : Nat) (r : R4) : Prop where
  c0 : w.cell? ⟨b, o, none⟩ = some (.int .i64 r.kind)
  c1 : w.cell? ⟨b, o + 1, none⟩ = some (.int .i64 r.tx)
  c2 : w.cell? ⟨b, o + 2, none⟩ = some (.int .i64 r.region)
  c3 : ∃ a cap, w.cell? ⟨b, o + 3, none⟩ = some (.slice a r.sets.length cap) ∧ Sl w B a r.sets.length r.sets ∧ r.sets.length ≤ cap
theorem RecAt.below {w w' : World} {B b o : Nat} {r : R4} (h : RecAt w B b o r) (hb : Below B w w') (hB : b < B) : RecAt w' B b o r :=
  ⟨(hb.cell (p := ⟨b, o, none⟩) hB).trans h.c0, (hb.cell (p := ⟨b, o + 1, none⟩) hB).trans h.c1, (hb.cell (p := ⟨b, o + 2, none⟩) hB).trans h.c2, by
    obtain ⟨a, cap, h1, h2, h3⟩ := h.c3
    exact ⟨a, cap, (hb.cell (p := ⟨b, o + 3, none⟩) hB).trans h1, h2.below hb, h3⟩⟩
theorem RecAt.mono {w : World} {B B' b o : Nat} {r : R4} (h : RecAt w B b o r) (hB : B ≤ B') : RecAt w B' b o r :=
  ⟨h.c0, h.c1, h.c2, by
    obtain ⟨a, cap, h1, h2, h3⟩ := h.c3
    exact ⟨a, cap, h1, h2.mono hB, h3⟩⟩
def RecsAt (w : World) (B b off : Nat) (rs : List R4) : Prop := ∀ i r, rs[i]? = some r → RecAt w B b (off + i * 4) r
def SlR (w : World) (B : Nat) (a : Option Addr) (n : Nat) (rs : List R4) : Prop := rs.length = n ∧ (n = 0 ∨ ∃ b off, a = some ⟨b, off, none⟩ ∧ b < B ∧ RecsAt w B b off rs)
theorem SlR.later {w w' : World} {a : Option Addr} {n : Nat} {rs : List R4} (h : SlR w w.heap.size a n rs) (hb : Below w.heap.size w w') : SlR w' w'.heap.size a n rs := by
  obtain ⟨h1, h2⟩ := h
  refine ⟨h1, h2.imp id ?_⟩
  rintro ⟨b, off, ha, hB, hx⟩
  exact ⟨b, off, ha, Nat.lt_of_lt_of_le hB hb.size, fun i r e => ((hx i r e).below hb hB).mono hb.size⟩
structure CopAt (w : World) (B b o : Nat) (k : K2) : Prop where
  c0 : w.cell? ⟨b, o, none⟩ = some (.int .i64 k.region)
  c1 : ∃ a cap, w.cell? ⟨b, o + 1, none⟩ = some (.slice a k.cells.length cap) ∧ SlC w B a k.cells.length k.cells ∧ k.cells.length ≤ cap
theorem CopAt.below {w w' : World} {B b o : Nat} {k : K2} (h : CopAt w B b o k) (hb : Below B w w') (hB : b < B) : CopAt w' B b o k :=
  ⟨(hb.cell (p := ⟨b, o, none⟩) hB).trans h.c0, by
    obtain ⟨a, cap, h1, h2, h3⟩ := h.c1
    exact ⟨a, cap, (hb.cell (p := ⟨b, o + 1, none⟩) hB).trans h1, h2.below hb, h3⟩⟩
theorem CopAt.mono {w : World} {B B' b o : Nat} {k : K2} (h : CopAt w B b o k) (hB : B ≤ B') : CopAt w B' b o k :=
  ⟨h.c0, by
    obtain ⟨a, cap, h1, h2, h3⟩ := h.c1
    exact ⟨a, cap, h1, h2.mono hB, h3⟩⟩
def CopsAt (w : World) (B b off : Nat) (ks : List K2) : Prop := ∀ i k, ks[i]? = some k → CopAt w B b (off + i * 2) k
def SlK (w : World) (B : Nat) (a : Option Addr) (n : Nat) (ks : List K2) : Prop := ks.length = n ∧ (n = 0 ∨ ∃ b off, a = some ⟨b, off, none⟩ ∧ b < B ∧ CopsAt w B b off ks)
theorem SlK.later {w w' : World} {a : Option Addr} {n : Nat} {ks : List K2} (h : SlK w w.heap.size a n ks) (hb : Below w.heap.size w w') : SlK w' w'.heap.size a n ks := by
  obtain ⟨h1, h2⟩ := h
  refine ⟨h1, h2.imp id ?_⟩
  rintro ⟨b, off, ha, hB, hx⟩
  exact ⟨b, off, ha, Nat.lt_of_lt_of_le hB hb.size, fun i k e => ((hx i k e).below hb hB).mono hb.size⟩
def atR (rs : List R4) (i : Nat) : R4 := rs[i]?.getD ⟨0, 0, 0, []⟩
theorem atR_of {rs : List R4} {i : Nat} (h : i < rs.length) : rs[i]? = some (atR rs i) := by simp [atR, List.getElem?_eq_getElem h]
def atK (ks : List K2) (i : Nat) : K2 := ks[i]?.getD ⟨0, []⟩
theorem atK_of {ks : List K2} {i : Nat} (h : i < ks.length) : ks[i]? = some (atK ks i) := by simp [atK, List.getElem?_eq_getElem h]
structure MV where
  ac : Option Addr
  cc : Nat
  al : Option Addr
  cl : Nat
  ad : Option Addr
  cd : Nat
def MV.val (v : MV) (m : M4) : Value := .agg #[.bool m.alive, .slice v.ac m.copies.length v.cc, .slice v.al m.log.length v.cl, .slice v.ad m.cleared.length v.cd]
structure SlM (w : World) (v : MV) (m : M4) : Prop where
  k : SlK w w.heap.size v.ac m.copies.length m.copies
  r : SlR w w.heap.size v.al m.log.length m.log
  n : SlN w w.heap.size v.ad m.cleared.length m.cleared
theorem SlM.later {w w' : World} {v : MV} {m : M4} (h : SlM w v m) (hb : Below w.heap.size w w') : SlM w' v m := ⟨h.k.later hb, h.r.later hb, h.n.later hb⟩
def lensR (rs : List R4) : Nat := (rs.map fun r => r.sets.length).sum
def lensK (ks : List K2) : Nat := (ks.map fun k => k.cells.length).sum
theorem sum_take_succ {ns : List Nat} {j x : Nat} (h : ns[j]? = some x) : (ns.take (j + 1)).sum = (ns.take j).sum + x := by
  rw [List.take_add_one, h]; simp
theorem sum_take_le (ns : List Nat) (j : Nat) : (ns.take j).sum ≤ ns.sum := by
  conv => rhs; rw [← List.take_append_drop j ns, List.sum_append]
  omega
theorem sum_mem {ns : List Nat} {x : Nat} (h : x ∈ ns) : x ≤ ns.sum := by
  induction ns with
  | nil => cases h
  | cons y r ih =>
    rcases List.mem_cons.1 h with rfl | h
    · simp
    · have := ih h; simp; omega
def R4.val (r : R4) (a : Option Addr) (cap : Nat) : Value := .agg #[.int .i64 r.kind, .int .i64 r.tx, .int .i64 r.region, .slice a r.sets.length cap]
def K2.val (k : K2) (a : Option Addr) (cap : Nat) : Value := .agg #[.int .i64 k.region, .slice a k.cells.length cap]
def FirstAt (f : Nat → Bool) (n : Nat) (i : Int) : Prop := (i = -1 ∧ ∀ j, j < n → f j = false) ∨ ∃ k : Nat, i = (k : Int) ∧ k < n ∧ f k = true ∧ ∀ j, j < k → f j = false
theorem hidOf {p : Prop} (h : p) : Hid p := h
end Go.Proofs.Ytcbfnajpcaipkaa
namespace Go.Proofs.Ytcbfnajpcaipkaa
open Go.RowKit
open Go.Sort (grow)
def has3 (zs : List Int) (y : Int) : Bool := zs.any fun z => decide (z = y)
theorem has3_off {zs : List Int} {y : Int} (h : ∀ t, t < zs.length → atN zs t ≠ y) : has3 zs y = false := by
  unfold has3
  rw [List.any_eq_false]
  intro z hz
  obtain ⟨i, hi, rfl⟩ := List.getElem_of_mem hz
  have := h i hi
  simpa [atN, List.getElem?_eq_getElem hi] using this
theorem has3_on {zs : List Int} {y : Int} {t : Nat} (ht : t < zs.length) (h : atN zs t = y) : has3 zs y = true := by
  unfold has3
  rw [List.any_eq_true]
  exact ⟨zs[t], List.getElem_mem ht, by simpa [atN, List.getElem?_eq_getElem ht] using h⟩
set_option maxHeartbeats 1000000 in
theorem l3Has3_any (w : World) (a : Option Addr) (n cap : Nat) (zs : List Int) (y : Int) (hn : n ≤ maxLen) (hs : SlN w w.heap.size a n zs) :
    Calls Try.prog 31 #[.slice a n cap, .int .i64 y] w fun e w' => e = .returned (.bool (has3 zs y)) ∧ w' = w := by
  unfold maxLen at hn
  obtain ⟨hx, hs⟩ := hs
  have HX : Hid (zs.length = n) := hx
  clear hx
  go_enter Try.func31, Try.ntmps31
  go_wp2
  go_loop [5] (fun v => ∃ j : Nat, j ≤ n ∧ v = .int .i64 j ∧ ∀ t, t < j → atN zs t ≠ y) (fun v => n - (intOf v).toNat)
  case atStart => exact ⟨0, Nat.zero_le _, rfl, fun t h => absurd h (by omega)⟩
  case round =>
    obtain ⟨j, hj, rfl, hlo⟩ := hrel
    have HL := hidOf hlo
    clear hlo
    by_cases hlt : j < n
    · rcases hs with hs | ⟨b, off, rfl, hb, h1⟩
      · omega
      have k0 := h1 j _ (atN_of (by rw [HX.out]; exact hlt))
      have jn : (j : Int) < (n : Int) := by omega
      clear h1
      by_cases he : atN zs j = y
      · have q : (atN zs j == y) = true := by simp [he]
        have HE := hidOf he
        clear he
        go_wp2
        go_ret
        exact ⟨by rw [has3_on (by rw [HX.out]; exact hlt) HE.out]; rfl, rfl⟩
      · have q : (atN zs j == y) = false := by simp [he]
        have HE := hidOf he
        clear he
        go_wp2
        exact ⟨⟨j + 1, by omega, by simp, fun t ht => by
          by_cases e : t = j
          · rw [e]; exact HE.out
          · exact HL.out t (by omega)⟩, by simp [intOf]; omega⟩
    · obtain rfl : j = n := by omega
      have hd : decide ((j : Int) < (j : Int)) = false := by simp
      go_wp2
      go_ret
      exact ⟨by rw [has3_off (fun t ht => HL.out t (by rw [← HX.out]; exact ht))]; rfl, rfl⟩
end Go.Proofs.Ytcbfnajpcaipkaa
namespace Go.Proofs.Ytcbfnajpcaipkaa
open Go.RowKit
def ON (w : World) (base : Nat) (v : Value) (zs : List Int) : Prop := w.ownsRow base 2 1 v zs.length (zs.map (Value.int .i64))
theorem ON.nil (w : World) (base : Nat) : ON w base (.slice none 0 0) [] := World.ownsRow_nil w base _ 1
theorem ON.empty (w : World) : ON (w.alloc (.cells #[] 2)) w.heap.size (.slice (some ⟨w.heap.size, 0, none⟩) 0 0) [] := World.ownsRow_made w #[] 0 (Nat.le_refl _) (Nat.zero_le _) rfl
theorem ON.lower {w : World} {base base' : Nat} {v : Value} {zs : List Int} (h : ON w base v zs) (hb : base' ≤ base) : ON w base' v zs :=
  ⟨h.1, h.2.imp id (fun ⟨g', cap', cur, e, l, r⟩ => ⟨g', cap', cur, e, Nat.le_trans hb l, r⟩)⟩
theorem ON.form {w : World} {base : Nat} {v : Value} {zs : List Int} (h : ON w base v zs) : (v = .slice none 0 0 ∧ zs = []) ∨ ∃ g cap, v = .slice (some ⟨g, 0, none⟩) zs.length cap ∧ base ≤ g ∧ g < w.heap.size ∧ zs.length ≤ cap ∧ NumsAt w g 0 zs ∧ Room w g zs.length := by
  rcases h.2 with ⟨e, h0⟩ | ⟨g, cap, cur, rfl, hb, hg, hc, _⟩
  · exact .inl ⟨e, List.eq_nil_of_length_eq_zero h0⟩
  · refine .inr ⟨g, cap, rfl, hb, ?_, hc, fun i z e => ?_, fun i hi => ?_⟩
    · exact (World.ownsRow.lt h g rfl).2
    · have hi : i < zs.length := (List.getElem?_eq_some_iff.1 e).1
      rw [Nat.zero_add, World.ownsRow.cellAt h i (by omega)]
      rw [List.getElem?_map, e]; rfl
    · refine ⟨.int .i64 zs[i], ?_, World.ownsRow.frozenAt h i⟩
      rw [World.ownsRow.cellAt h i (by omega)]
      simp [hi]
theorem ON.kept {w w' : World} {base : Nat} {v : Value} {zs : List Int} (h : ON w base v zs) (hs : ∀ q, v.ownBlock = some q → w'.heap[q]? = w.heap[q]?) : ON w' base v zs := by
  refine ⟨h.1, h.2.imp id ?_⟩
  rintro ⟨g, cap, cur, rfl, l, hg, r⟩
  exact ⟨g, cap, cur, rfl, l, (hs g rfl).trans hg, r⟩
theorem ON.below {w w' : World} {base : Nat} {v : Value} {zs : List Int} (h : ON w base v zs) (hb : Below w.heap.size w w') : ON w' base v zs :=
  h.kept fun q e => hb.block q (World.ownsRow.lt h q e).2
theorem info_i64 : (Try.prog.info? 2).map (fun i => (i.zero, i.size, i.bytes)) = some (some (.int .i64 0), 1, 8) := by kernel_rfl
theorem on_append (W : World) (base : Nat) (v : Value) (zs ys : List Int) (b off k : Nat) (ty : TypeId) (h : ON W base v zs) (hx : NumsAt W b off ys) (hm : zs.length + ys.length ≤ 100000) (hbase : base ≤ W.heap.size) :
    ∃ v' W', (Builtin.append_ #[59, 59] ty #[v, .slice (some ⟨b, off, none⟩) ys.length k]).run Try.prog W = .ok v' W' ∧ ON W' base v' (zs ++ ys) ∧ W.grownBy W' v.ownBlock ∧ (v'.ownBlock = v.ownBlock ∨ v'.ownBlock = some W.heap.size) := by
  obtain ⟨i0, hi0, hz0, hz1, hz2⟩ := info_parts info_i64
  have hadd : ∀ (b o j : Nat), (⟨b, o, none⟩ : Addr).add j = ⟨b, o + j, none⟩ := fun b o j => by unfold Addr.add; split <;> simp_all
  obtain ⟨v', w', hrun, hown, hg, _, hl⟩ := run_append_own_at (P := Try.prog) W base 59 ty 2 i0 (.int .i64 0) 1 8 Try.underlying59 hi0 hz0 hz1 hz2 rfl (by decide)
    v zs.length _ h ⟨b, off, none⟩ ys.length k (ys.map (Value.int .i64)) (by simp) (fun j u h => by
      rw [List.getElem?_map] at h
      cases hx' : ys[j]? with
      | none => rw [hx'] at h; cases h
      | some x => rw [hx'] at h; simp at h; subst h; rw [hadd]; exact hx j x hx')
    (fun u hu => by obtain ⟨x, _, rfl⟩ := List.mem_map.1 hu; rfl) (by unfold maxLen; omega) (by omega) hbase
  refine ⟨v', w', hrun, ?_, hg, hl⟩
  unfold ON
  rw [List.map_append, List.length_append]
  exact hown
structure PB (w : World) (base P : Nat) (v : Value) (zs : List Int) : Prop where
  cell : w.cell? ⟨P, 0, none⟩ = some v
  frz : w.frozen? ⟨P, 0, none⟩ = false
  lt : P < w.heap.size
  low : base ≤ P
  on : ON w base v zs
  ne : v.ownBlock ≠ some P
theorem PB.new (w : World) (base : Nat) (hb : base ≤ w.heap.size) : PB (w.alloc (.cells #[.slice none 0 0] 64)) base w.heap.size (.slice none 0 0) [] :=
  ⟨by go_simp, by go_simp, by simp, hb, ON.nil _ _, by simp [Value.ownBlock]⟩
theorem PB.step {w : World} {base P : Nat} {v : Value} {zs : List Int} (h : PB w base P v zs) (z : Int) (hm : zs.length ≤ 1000) (ty : TypeId) :
    ∃ v' W', (Builtin.append_ #[59, 59] ty #[v, .slice (some ⟨w.heap.size, 0, none⟩) 1 1]).run Try.prog (w.drew.alloc (.cells #[.int .i64 z] 2)) = .ok v' W'
      ∧ W'.cell? ⟨P, 0, none⟩ = some v ∧ W'.frozen? ⟨P, 0, none⟩ = false ∧ PB (W'.setCell ⟨P, 0, none⟩ v') base P v' (zs ++ [z]) ∧ Below base w (W'.setCell ⟨P, 0, none⟩ v') ∧ Below base w W' := by
  have hP := h.lt
  have hlow := h.low
  have bA : Below w.heap.size w (w.drew.alloc (.cells #[.int .i64 z] 2)) := ((Below.refl _ _).drew).alloc (Nat.le_refl _) _
  have sA : (w.drew.alloc (.cells #[.int .i64 z] 2)).heap.size = w.heap.size + 1 := by show (w.alloc _).heap.size = _; simp
  have cz : NumsAt (w.drew.alloc (.cells #[.int .i64 z] 2)) w.heap.size 0 [z] := fun i x e => by
    obtain ⟨rfl, rfl⟩ : i = 0 ∧ x = z := by
      cases i with
      | zero => simp at e; exact ⟨rfl, e.symm⟩
      | succ i => simp at e
    show (w.drew.alloc _).cell? ⟨w.drew.heap.size, 0, none⟩ = _
    go_simp
  obtain ⟨v', W', hr, ho, hg, hl⟩ := on_append (w.drew.alloc (.cells #[.int .i64 z] 2)) base v zs [z] w.heap.size 0 1 ty (h.on.below bA) cz (by simp; omega) (by omega)
  have hPA : P < (w.drew.alloc (.cells #[.int .i64 z] 2)).heap.size := by omega
  have c1 : W'.cell? ⟨P, 0, none⟩ = some v := (hg.cell_far ⟨P, 0, none⟩ hPA (fun e => h.ne e.symm)).trans ((bA.cell (p := ⟨P, 0, none⟩) hP).trans h.cell)
  have f1 : W'.frozen? ⟨P, 0, none⟩ = false := (hg.frozen_far ⟨P, 0, none⟩ hPA (fun e => h.ne e.symm)).trans ((bA.frozen (p := ⟨P, 0, none⟩) hP).trans h.frz)
  have hne : v'.ownBlock ≠ some P := by
    rcases hl with e | e
    · rw [e]; exact h.ne
    · rw [e]; intro e'; cases e'; omega
  have sz : P < W'.heap.size := Nat.lt_of_lt_of_le hPA hg.size
  refine ⟨v', W', hr, c1, f1, ⟨cell_set_same c1, by rw [World.frozen?_setCell]; exact f1, by simpa [World.setCell] using sz, hlow, ?_, hne⟩, ?_⟩
  · exact ho.kept fun q e => Below.heap_setCell _ _ _ _ (fun e' => hne (by rw [e, e']))
  · have hb1 : Below base w W' := (bA.mono (by omega)).grown hg (by omega) (fun q e => (World.ownsRow.lt h.on q e).1)
    exact ⟨hb1.setCell (p := ⟨P, 0, none⟩) hlow _, hb1⟩
structure OutP (w : World) (base : Nat) (v : Value) (zss : List (List Int)) (g : Nat → Nat) : Prop where
  row : ∃ cs : List Value, w.ownsRow base 64 1 v zss.length cs ∧ ∀ (i : Nat) (zs : List Int), zss[i]? = some zs → ∃ cap : Nat, cs[i]? = some (Value.slice (some ⟨g i, 0, none⟩) zs.length cap) ∧ zs.length ≤ cap
  low : ∀ i, i < zss.length → base ≤ g i
  lt : ∀ i, i < zss.length → g i < w.heap.size
  ne : ∀ i, i < zss.length → v.ownBlock ≠ some (g i)
  nums : ∀ i zs, zss[i]? = some zs → NumsAt w (g i) 0 zs
  room : ∀ i zs, zss[i]? = some zs → Room w (g i) zs.length
  inj : ∀ i j, i < zss.length → j < zss.length → g i = g j → i = j
theorem OutP.empty (w : World) (base : Nat) (hb : base ≤ w.heap.size) (g : Nat → Nat) : OutP (w.alloc (.cells #[] 64)) base (.slice (some ⟨w.heap.size, 0, none⟩) 0 0) [] g :=
  ⟨⟨[], World.ownsRow_made w #[] 0 hb (Nat.zero_le _) rfl, fun i zs e => by simp at e⟩, fun i h => by simp at h, fun i h => by simp at h, fun i h => by simp at h, fun i zs e => by simp at e, fun i zs e => by simp at e, fun i j h => by simp at h⟩
theorem OutP.below {w w' : World} {base : Nat} {v : Value} {zss : List (List Int)} {g : Nat → Nat} (h : OutP w base v zss g) (hb : Below w.heap.size w w') : OutP w' base v zss g := by
  have hi : ∀ i zs, zss[i]? = some zs → i < zss.length := fun i zs e => (List.getElem?_eq_some_iff.1 e).1
  obtain ⟨cs, ho, hc⟩ := h.row
  refine ⟨⟨cs, ⟨ho.1, ho.2.imp id ?_⟩, hc⟩, h.low, fun i hi => Nat.lt_of_lt_of_le (h.lt i hi) hb.size, h.ne, fun i zs e => (h.nums i zs e).of_block (hb.block _ (h.lt i (hi i zs e))), fun i zs e => (h.room i zs e).of_block (hb.block _ (h.lt i (hi i zs e))), h.inj⟩
  rintro ⟨q, cap, cur, rfl, l, hg, r⟩
  exact ⟨q, cap, cur, rfl, l, (hb.block q (World.ownsRow.lt ho q rfl).2).trans hg, r⟩
theorem info_place : (Try.prog.info? 64).map (fun i => (i.zero, i.size, i.bytes)) = some (some (.agg #[.slice none 0 0]), 1, 24) := by kernel_rfl
theorem OutP.push {W : World} {base e : Nat} {v : Value} {zss : List (List Int)} {g : Nat → Nat} (h : OutP W base v zss g) (zs : List Int) (q cap : Nat) (hm : zss.length ≤ 1000) (ty : TypeId)
    (he : W.cell? ⟨e, 0, none⟩ = some (.slice (some ⟨q, 0, none⟩) zs.length cap)) (hcp : zs.length ≤ cap) (hq : base ≤ q) (hl : q < W.heap.size) (hn : v.ownBlock ≠ some q) (hx : NumsAt W q 0 zs) (hr : Room W q zs.length) (hf : ∀ i, i < zss.length → g i ≠ q) (hbase : base ≤ W.heap.size) :
    ∃ v' W', (Builtin.append_ #[22, 22] ty #[v, .slice (some ⟨e, 0, none⟩) 1 1]).run Try.prog W = .ok v' W' ∧ OutP W' base v' (zss ++ [zs]) (fun i => if i = zss.length then q else g i) ∧ W.grownBy W' v.ownBlock ∧ (v'.ownBlock = v.ownBlock ∨ v'.ownBlock = some W.heap.size) ∧ v' ≠ .slice none 0 0 := by
  obtain ⟨cs, ho, hc⟩ := h.row
  have hcl : cs.length = zss.length := by simpa using ho.1
  obtain ⟨i0, hi0, hz0, hz1, hz2⟩ := info_parts info_place
  have hadd : ∀ (b o j : Nat), (⟨b, o, none⟩ : Addr).add j = ⟨b, o + j, none⟩ := fun b o j => by unfold Addr.add; split <;> simp_all
  obtain ⟨v', W', hrun, hown, hg, hnil, hlies⟩ := run_append_own_at (P := Try.prog) W base 22 ty 64 i0 (.agg #[.slice none 0 0]) 1 24 Try.underlying22 hi0 hz0 hz1 hz2 rfl (by decide)
    v zss.length cs ho ⟨e, 0, none⟩ 1 1 [.slice (some ⟨q, 0, none⟩) zs.length cap] rfl (fun j u hu => by
      cases j with
      | zero => simp at hu; subst hu; rw [hadd]; exact he
      | succ j => simp at hu)
    (fun u hu => by simp at hu; subst hu; rfl) (by unfold maxLen; omega) (by omega) hbase
  have far : ∀ x, x < W.heap.size → v.ownBlock ≠ some x → W'.heap[x]? = W.heap[x]? := fun x hx hne => hg.block x hx (fun e' => hne e'.symm)
  have nev : ∀ x, x < W.heap.size → v.ownBlock ≠ some x → v'.ownBlock ≠ some x := fun x hx hne => by
    rcases hlies with e' | e'
    · rw [e']; exact hne
    · rw [e']; intro e''; cases e''; omega
  have split : ∀ i ys, (zss ++ [zs])[i]? = some ys → (i < zss.length ∧ zss[i]? = some ys) ∨ (i = zss.length ∧ ys = zs) := fun i ys e' => by
    by_cases hi : i < zss.length
    · rw [List.getElem?_append_left hi] at e'
      exact .inl ⟨hi, e'⟩
    · rw [List.getElem?_append_right (by omega)] at e'
      have h0 : i - zss.length = 0 := by
        rcases Nat.eq_zero_or_pos (i - zss.length) with h | h
        · exact h
        · rw [List.getElem?_eq_none (by simp; omega)] at e'; cases e'
      rw [h0] at e'
      simp at e'
      exact .inr ⟨by omega, e'.symm⟩
  have hlen : (zss ++ [zs]).length = zss.length + 1 := by simp
  refine ⟨v', W', hrun, ⟨⟨cs ++ [.slice (some ⟨q, 0, none⟩) zs.length cap], by rw [hlen]; exact hown, fun i ys e' => ?_⟩, fun i hi => ?_, fun i hi => ?_, fun i hi => ?_, fun i ys e' => ?_, fun i ys e' => ?_, fun i k hi hk e' => ?_⟩, hg, hlies, fun e' => by obtain ⟨x, y, e'', _⟩ := World.ownsRow.form hown (by omega); rw [e'] at e''; cases e''⟩
  · rcases split i ys e' with ⟨hi, e'⟩ | ⟨rfl, rfl⟩
    · rw [if_neg (by omega), List.getElem?_append_left (by omega)]; exact hc i ys e'
    · rw [if_pos rfl, List.getElem?_append_right (by omega), hcl, Nat.sub_self]; exact ⟨cap, rfl, hcp⟩
  · rw [hlen] at hi
    by_cases e' : i = zss.length
    · rw [if_pos e']; exact hq
    · rw [if_neg e']; exact h.low i (by omega)
  · rw [hlen] at hi
    by_cases e' : i = zss.length
    · rw [if_pos e']; exact Nat.lt_of_lt_of_le hl hg.size
    · rw [if_neg e']; exact Nat.lt_of_lt_of_le (h.lt i (by omega)) hg.size
  · rw [hlen] at hi
    by_cases e' : i = zss.length
    · rw [if_pos e']; exact nev q hl hn
    · rw [if_neg e']; exact nev _ (h.lt i (by omega)) (h.ne i (by omega))
  · rcases split i ys e' with ⟨hi, e'⟩ | ⟨rfl, rfl⟩
    · rw [if_neg (by omega)]; exact (h.nums i ys e').of_block (far _ (h.lt i hi) (h.ne i hi))
    · rw [if_pos rfl]; exact hx.of_block (far q hl hn)
  · rcases split i ys e' with ⟨hi, e'⟩ | ⟨rfl, rfl⟩
    · rw [if_neg (by omega)]; exact (h.room i ys e').of_block (far _ (h.lt i hi) (h.ne i hi))
    · rw [if_pos rfl]; exact hr.of_block (far q hl hn)
  · rw [hlen] at hi hk
    by_cases ei : i = zss.length <;> by_cases ek : k = zss.length
    · omega
    · simp only [if_pos ei, if_neg ek] at e'; exact absurd e'.symm (hf k (by omega))
    · simp only [if_neg ei, if_pos ek] at e'; exact absurd e' (hf i (by omega))
    · simp only [if_neg ei, if_neg ek] at e'; exact h.inj i k (by omega) (by omega) e'
theorem OutP.grown {w w' : World} {base : Nat} {v : Value} {zss : List (List Int)} {g : Nat → Nat} {row : Option Nat} (h : OutP w base v zss g) (hg : w.grownBy w' row) (h1 : v.ownBlock ≠ row) (h2 : ∀ i, i < zss.length → row ≠ some (g i)) : OutP w' base v zss g := by
  have hi : ∀ i zs, zss[i]? = some zs → i < zss.length := fun i zs e => (List.getElem?_eq_some_iff.1 e).1
  obtain ⟨cs, ho, hc⟩ := h.row
  have far : ∀ i, i < zss.length → w'.heap[g i]? = w.heap[g i]? := fun i hi => hg.block _ (h.lt i hi) (fun e => h2 i hi e.symm)
  refine ⟨⟨cs, ⟨ho.1, ho.2.imp id ?_⟩, hc⟩, h.low, fun i hi => Nat.lt_of_lt_of_le (h.lt i hi) hg.size, h.ne, fun i zs e => (h.nums i zs e).of_block (far i (hi i zs e)), fun i zs e => (h.room i zs e).of_block (far i (hi i zs e)), h.inj⟩
  rintro ⟨q, cap, cur, rfl, l, hq, r⟩
  exact ⟨q, cap, cur, rfl, l, (hg.block q (World.ownsRow.lt ho q rfl).2 (fun e => h1 e)).trans hq, r⟩
theorem ON.grown {w w' : World} {base : Nat} {v : Value} {zs : List Int} {row : Option Nat} (h : ON w base v zs) (hg : w.grownBy w' row) (h1 : v.ownBlock ≠ row) : ON w' base v zs :=
  h.kept fun q e => hg.block q (World.ownsRow.lt h q e).2 (fun e' => h1 (e.trans e'))
theorem OutP.lies {w : World} {base : Nat} {v : Value} {zss : List (List Int)} {g : Nat → Nat} (h : OutP w base v zss g) {q : Nat} (e : v.ownBlock = some q) : base ≤ q ∧ q < w.heap.size := by
  obtain ⟨cs, ho, _⟩ := h.row
  exact World.ownsRow.lt ho q e
theorem OutP.own {w : World} {base : Nat} {v : Value} {zss : List (List Int)} {g : Nat → Nat} (h : OutP w base v zss g) (hv : v ≠ .slice none 0 0) : ∃ b cap, v = .slice (some ⟨b, 0, none⟩) zss.length cap ∧ base ≤ b ∧ b < w.heap.size ∧ zss.length ≤ cap ∧ OwnP w base b zss.length zss g := by
  obtain ⟨cs, ho, hc⟩ := h.row
  have ho' := ho
  rcases ho'.2 with ⟨e, _⟩ | ⟨b, cap, cur, rfl, hb, hg, hcp, _⟩
  · exact absurd e hv
  · refine ⟨b, cap, rfl, hb, (World.ownsRow.lt ho b rfl).2, hcp, ⟨rfl, fun i zs e => ?_, h.low, h.lt, fun i hi e => h.ne i hi (by rw [e]; rfl), h.nums, h.room, h.inj⟩⟩
    have hi : i < zss.length := (List.getElem?_eq_some_iff.1 e).1
    obtain ⟨cp, hcs, hle⟩ := hc i zs e
    exact ⟨cp, by rw [World.ownsRow.cellAt ho i (by omega)]; exact hcs, hle⟩
end Go.Proofs.Ytcbfnajpcaipkaa