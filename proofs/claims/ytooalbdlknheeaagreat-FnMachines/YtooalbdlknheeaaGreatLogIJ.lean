/- The program's search in a log: ofRegion, the first such record; its Logged. -/
import Derived.Test.YtooalbdlknheeaaGreatRows
import Derived.Test.YtooalbdlknheeaaGreatTakeJ
import Derived.WalkKit
import Derived.WalkSpells
import Derived.WalkLawsBesides
import Derived.Below
namespace Go.Proofs.YtooalbdlknheeaaGreat
open Go.RowKit
def ofB (t g : Int) (r : R4) : Bool := (r.tx == t) && (r.region == g)
def lgB (t g k : Int) (r : R4) : Bool := ofB t g r && (r.kind == k)
def ansR (m : M4) (t g k : Int) : Option R4 := if machB m = true then m.log.find? (lgB t g k) else none
def ansV (m : M4) (t g k : Int) : R4 := (ansR m t g k).getD ⟨0, 0, 0, []⟩
def ansH (m : M4) (t g k : Int) : Bool := (ansR m t g k).isSome
/-- A row of Sets of a call's own, from block base on: none, or at the head of a block. -/
def OwnSt (w : World) (base : Nat) (a : Option Addr) (xs : List S5) : Prop := xs = [] ∨ ∃ q, a = some ⟨q, 0, none⟩ ∧ base ≤ q ∧ q < w.heap.size ∧ SetsAt w q 0 xs ∧ Room w q (xs.length * 5)
theorem OwnSt.sl {w : World} {base : Nat} {a : Option Addr} {xs : List S5} (h : OwnSt w base a xs) : Sl w w.heap.size a xs.length xs := by
  rcases h with rfl | ⟨q, rfl, h1, h2, h3, _⟩
  · exact ⟨rfl, .inl rfl⟩
  · exact ⟨rfl, .inr ⟨q, 0, rfl, h2, h3⟩⟩
/-- What Logged answers, in memory of its own. -/
def LogAns (w : World) (m : M4) (t g k : Int) (e : Ending) (w' : World) : Prop :=
  ∃ (a : Option Addr) (cp : Nat), e = .returned (.tuple #[(ansV m t g k).val a cp, .bool (ansH m t g k)]) ∧ OwnSt w' w.heap.size a (ansV m t g k).sets ∧ Below w.heap.size w w'
theorem findR_at {rs : List R4} {f : R4 → Bool} {k : Nat} (hk : k < rs.length) (h : f (atR rs k) = true) (hlo : ∀ j, j < k → f (atR rs j) = false) : rs.find? f = some (atR rs k) := by
  induction rs generalizing k with
  | nil => simp at hk
  | cons c rs ih =>
    cases k with
    | zero =>
      have h0 : f c = true := h
      rw [List.find?_cons_of_pos h0]; rfl
    | succ k =>
      have h0 : f c = false := hlo 0 (by omega)
      rw [List.find?_cons_of_neg (by simp [h0])]
      exact ih (k := k) (by simpa using hk) h (fun j hj => hlo (j + 1) (by omega))
theorem findR_none {rs : List R4} {f : R4 → Bool} (h : ∀ j, j < rs.length → f (atR rs j) = false) : rs.find? f = none := by
  rw [List.find?_eq_none]
  intro c hc
  obtain ⟨i, hi, rfl⟩ := List.getElem_of_mem hc
  have := h i hi
  rw [atR, List.getElem?_eq_getElem hi] at this
  simpa using this
theorem ansR_first {m : M4} {t g k : Int} {i : Nat} (hB : machB m = true) (hi : i < m.log.length) (h : lgB t g k (atR m.log i) = true) (hlo : ∀ j, j < i → lgB t g k (atR m.log j) = false) : ansR m t g k = some (atR m.log i) := by
  rw [ansR, if_pos hB, findR_at hi h hlo]
theorem ansR_none {m : M4} {t g k : Int} (h : ∀ j, j < m.log.length → lgB t g k (atR m.log j) = false) : ansR m t g k = none := by
  unfold ansR
  rw [findR_none h]; simp
theorem ansR_bad {m : M4} (t g k : Int) (hB : machB m = false) : ansR m t g k = none := by simp [ansR, hB]
theorem LogAns.no {w w' : World} {m : M4} {t g k : Int} (h : ansR m t g k = none) (hb : Below w.heap.size w w') : LogAns w m t g k (.returned (.tuple #[.agg #[.int .i64 0, .int .i64 0, .int .i64 0, .slice none 0 0], .bool false])) w' :=
  ⟨Option.none, 0, by simp [ansV, ansH, h, R4.val], .inl (by simp [ansV, h]), hb⟩
set_option maxHeartbeats 1000000 in
theorem ofRegion_any (w : World) (r : R4) (a : Option Addr) (cap : Nat) (t g : Int) : Calls Tryz.prog 141 #[r.val a cap, .int .i64 t, .int .i64 g] w fun e w' => e = .returned (.bool (ofB t g r)) ∧ Below w.heap.size w w' := by
  simp only [R4.val, ofB]
  have b0 : Below w.heap.size w (w.alloc (.cells #[.int .i64 r.kind, .int .i64 r.tx, .int .i64 r.region, .slice a r.sets.length cap] 41)) := (Below.refl _ _).alloc (Nat.le_refl _) _
  generalize r.sets.length = n at *
  cases h1 : (r.tx == t) with
  | false =>
    go_enter Tryz.func141, Tryz.ntmps141
    go_wp2
    go_ret
    exact ⟨rfl, b0⟩
  | true =>
    go_enter Tryz.func141, Tryz.ntmps141
    go_wp2
    go_ret
    exact ⟨rfl, b0⟩
set_option maxHeartbeats 1000000 in
theorem first1_any (w : World) (r : R4) (a : Option Addr) (cap : Nat) (t g k : Int) (g1 g2 g3 : Nat) (h1 : w.cell? ⟨g1, 0, none⟩ = some (.int .i64 t)) (h2 : w.cell? ⟨g2, 0, none⟩ = some (.int .i64 g)) (h3 : w.cell? ⟨g3, 0, none⟩ = some (.int .i64 k)) (l1 : g1 < w.heap.size) (l2 : g2 < w.heap.size) (l3 : g3 < w.heap.size) :
    Calls Tryz.prog 140 #[r.val a cap, .pointer (some ⟨g1, 0, none⟩), .pointer (some ⟨g2, 0, none⟩), .pointer (some ⟨g3, 0, none⟩)] w fun e w' => e = .returned (.bool (lgB t g k r)) ∧ Below w.heap.size w w' := by
  obtain ⟨W, hW⟩ : ∃ W, W = w.alloc (.cells #[.int .i64 r.kind, .int .i64 r.tx, .int .i64 r.region, .slice a r.sets.length cap] 41) := ⟨_, rfl⟩
  have b0 : Below w.heap.size w W := by subst hW; exact (Below.refl _ _).alloc (Nat.le_refl _) _
  have d1 := (b0.cell (p := ⟨g1, 0, none⟩) l1).trans h1
  have d2 := (b0.cell (p := ⟨g2, 0, none⟩) l2).trans h2
  have d3 := (b0.cell (p := ⟨g3, 0, none⟩) l3).trans h3
  have s0 : w.heap.size < W.heap.size := by subst hW; simp
  have c0 : W.cell? ⟨w.heap.size, 0, none⟩ = some (.int .i64 r.kind) := by subst hW; go_simp
  have hc := ofRegion_any W r a cap t g
  have H : Hid (Below w.heap.size w W ∧ lgB t g k r = (ofB t g r && (r.kind == k)) ∧ g3 < W.heap.size ∧ w.heap.size < W.heap.size) := ⟨b0, rfl, Nat.lt_of_lt_of_le l3 b0.size, s0⟩
  simp only [R4.val] at hc ⊢
  clear h1 h2 h3 b0 s0 l1 l2 l3
  generalize lgB t g k r = V at *
  cases hO : ofB t g r with
  | false =>
    rw [hO] at hc
    subst hW
    go_enter Tryz.func140, Tryz.ntmps140
    go_wp2_with fail
    refine hc.mono ?_
    clear hc
    rintro e w1 ⟨rfl, b1⟩
    go_wp2
    go_ret
    exact ⟨by rw [H.out.2.1, hO]; rfl, H.out.1.trans (b1.mono H.out.1.size)⟩
  | true =>
    rw [hO] at hc
    subst hW
    go_enter Tryz.func140, Tryz.ntmps140
    go_wp2_with fail
    generalize w.alloc (.cells #[.int .i64 r.kind, .int .i64 r.tx, .int .i64 r.region, .slice a r.sets.length cap] 41) = W at *
    refine hc.mono ?_
    clear hc
    rintro e w1 ⟨rfl, b1⟩
    have x0 := (b1.cell (p := ⟨w.heap.size, 0, none⟩) H.out.2.2.2).trans c0
    have x3 := (b1.cell (p := ⟨g3, 0, none⟩) H.out.2.2.1).trans d3
    have BE := hidOf (H.out.1.trans (b1.mono H.out.1.size))
    clear b1 c0 d1 d2 d3
    go_wp2
    go_ret
    exact ⟨by rw [H.out.2.1, hO]; rfl, BE.out⟩
/-- What the function answers of each element, wherever it lies. -/
def idxFirstF (w : World) (n : Nat) (rs : List R4) (g1 : Nat) (g2 : Nat) (g3 : Nat) (f : Nat → Bool) : Prop :=
  ∀ (X : World) (i : Nat) (a' : Option Addr) (cap' : Nat), Below w.heap.size w X → i < n → Sl X X.heap.size a' (atR rs i).sets.length (atR rs i).sets → Calls Tryz.prog 140 #[(atR rs i).val a' cap', .pointer (some ⟨g1, 0, none⟩), .pointer (some ⟨g2, 0, none⟩), .pointer (some ⟨g3, 0, none⟩)] X fun e w' => e = .returned (.bool (f i)) ∧ Below X.heap.size X w'
set_option maxHeartbeats 2000000 in
theorem idxFirst (w : World) (a : Option Addr) (n cap : Nat) (rs : List R4) (g1 : Nat) (g2 : Nat) (g3 : Nat) (f : Nat → Bool) (hn : n ≤ maxLen) (hs : SlR w w.heap.size a n rs) (hf : idxFirstF w n rs g1 g2 g3 f) :
    Calls Tryz.prog 142 #[.slice a n cap, .func (.func 140) #[] #[.pointer (some ⟨g1, 0, none⟩), .pointer (some ⟨g2, 0, none⟩), .pointer (some ⟨g3, 0, none⟩)]] w fun e w' => (∃ i : Int, e = .returned (.int .i64 i) ∧ FirstAt f n i) ∧ Below w.heap.size w w' := by
  unfold maxLen at hn
  obtain ⟨hx, hs⟩ := hs
  have HF := hidOf hf
  clear hf
  go_enter Tryz.func142, Tryz.ntmps142
  go_wp2
  go_loopw [8] (fun v wr => ∃ j : Nat, j ≤ n ∧ v = .int .i64 j ∧ Below w.heap.size w wr ∧ ∀ i, i < j → f i = false) (fun v _ => n - (intOf v).toNat)
  case atStart => exact ⟨0, Nat.zero_le _, rfl, Below.refl _ _, fun i h => absurd h (by omega)⟩
  case round =>
    obtain ⟨j, hj, rfl, hbl, hall⟩ := hrel
    by_cases hlt : j < n
    · rcases hs with hs | ⟨b, off, rfl, hb, h1⟩
      · omega
      · have hr := (h1 j _ (atR_of (by omega))).below hbl hb
        have c0 := hr.c0
        have c1 := hr.c1
        have c2 := hr.c2
        obtain ⟨a', cap', c3, hsl, hcp⟩ := hr.c3
        have KA : Hid ((∀ i, i < j → f i = false) ∧ Below w.heap.size w wr) := ⟨hall, hbl⟩
        have hw := HF.out wr j a' cap' hbl hlt (hsl.mono hbl.size)
        simp only [R4.val] at hw
        clear h1 hr hall hsl hbl hcp
        generalize (atR rs j).sets.length = ln at *
        cases hp : f j with
        | true =>
          rw [hp] at hw
          go_wp2_with fail
          refine hw.mono ?_
          clear hw
          rintro e w1 ⟨rfl, b1⟩
          go_wp2
          go_ret
          exact ⟨⟨_, rfl, .inr ⟨j, rfl, hlt, hp, KA.out.1⟩⟩, KA.out.2.trans (b1.mono KA.out.2.size)⟩
        | false =>
          rw [hp] at hw
          go_wp2_with fail
          refine hw.mono ?_
          clear hw
          rintro e w1 ⟨rfl, b1⟩
          go_wp2
          exact ⟨⟨j + 1, by omega, by simp, KA.out.2.trans (b1.mono KA.out.2.size), fun i hi => by
            by_cases e : i = j
            · rw [e]; exact hp
            · exact KA.out.1 i (by omega)⟩, by simp [intOf]; omega⟩
    · have : j = n := by omega
      subst this
      have hd : decide ((j : Int) < (j : Int)) = false := by simp
      have KA : Hid (∀ i, i < j → f i = false) := hall
      clear hs hall
      go_wp2
      go_ret
      exact ⟨⟨_, rfl, .inl ⟨rfl, KA.out⟩⟩, hbl⟩
/-- What a search finds: none, or the first one, in memory of its own. -/
def FirstAns (base : Nat) (rs : List R4) (t g k : Int) (gr : Nat → Nat) (e : Ending) (w' : World) : Prop :=
  (e = .returned (.tuple #[.agg #[.int .i64 0, .int .i64 0, .int .i64 0, .slice none 0 0], .bool false]) ∧ ∀ j, j < rs.length → lgB t g k (atR rs j) = false) ∨
  ∃ (i cp : Nat), e = .returned (.tuple #[(atR rs i).val (some ⟨gr i, 0, none⟩) cp, .bool true]) ∧ i < rs.length ∧ lgB t g k (atR rs i) = true ∧ (∀ j, j < i → lgB t g k (atR rs j) = false) ∧ AtR w' (gr i) (atR rs i) ∧ base ≤ gr i ∧ gr i < w'.heap.size
/-- The boxes of first: three numbers, and its answer's. -/
structure B4 (s : Nat) (t g k : Int) (X : World) : Prop where
  t0 : X.cell? ⟨s, 0, none⟩ = some (.int .i64 t)
  g0 : X.cell? ⟨s + 1, 0, none⟩ = some (.int .i64 g)
  k0 : X.cell? ⟨s + 1 + 1, 0, none⟩ = some (.int .i64 k)
  e0 : X.cell? ⟨s + 1 + 1 + 1, 0, none⟩ = some (.int .i64 0)
  e1 : X.cell? ⟨s + 1 + 1 + 1, 1, none⟩ = some (.int .i64 0)
  e2 : X.cell? ⟨s + 1 + 1 + 1, 2, none⟩ = some (.int .i64 0)
  e3 : X.cell? ⟨s + 1 + 1 + 1, 3, none⟩ = some (.slice none 0 0)
  fe : ∀ j, X.frozen? ⟨s + 1 + 1 + 1, j, none⟩ = false
  lt : s + 3 < X.heap.size
theorem B4.later {s : Nat} {t g k : Int} {X Y : World} (h : B4 s t g k X) (hb : Below X.heap.size X Y) : B4 s t g k Y := by
  have l := h.lt
  have c : ∀ {b j : Nat} {u : Value}, b < X.heap.size → X.cell? ⟨b, j, none⟩ = some u → Y.cell? ⟨b, j, none⟩ = some u := fun {b j u} e h => (hb.cell (p := ⟨b, j, none⟩) e).trans h
  exact ⟨c (by omega) h.t0, c (by omega) h.g0, c (by omega) h.k0, c (by omega) h.e0, c (by omega) h.e1, c (by omega) h.e2, c (by omega) h.e3, fun j => (hb.frozen (p := ⟨s + 1 + 1 + 1, j, none⟩) (by show s + 1 + 1 + 1 < X.heap.size; omega)).trans (h.fe j), Nat.lt_of_lt_of_le l hb.size⟩
set_option maxHeartbeats 4000000 in
theorem first_any (w : World) (p base : Nat) (a : Option Addr) (cap : Nat) (rs : List R4) (t g k : Int) (gr : Nat → Nat) (hn : rs.length ≤ 1000) (hG : GrowG 41 4 hdR lnR AtR w base (.slice a rs.length cap) rs gr) (hc : w.cell? ⟨p, 0, none⟩ = some (.slice a rs.length cap)) (hp : p < w.heap.size) :
    Calls Tryz.prog 71 #[.pointer (some ⟨p, 0, none⟩), .int .i64 t, .int .i64 g, .int .i64 k] w fun e w' => FirstAns base rs t g k gr e w' ∧ Below w.heap.size w w' := by
  obtain ⟨W, hW⟩ : ∃ W, W = (((w.alloc (.cells #[.int .i64 t] 2)).alloc (.cells #[.int .i64 g] 2)).alloc (.cells #[.int .i64 k] 2)).alloc (.cells #[.int .i64 0, .int .i64 0, .int .i64 0, .slice none 0 0] 41) := ⟨_, rfl⟩
  have b0 : Below w.heap.size w W := by subst hW; exact ((((Below.refl _ _).alloc (Nat.le_refl _) _).alloc (by simp) _).alloc (by simp; omega) _).alloc (by simp; omega) _
  have s0 : W.heap.size = w.heap.size + 4 := by subst hW; simp
  have x0 : B4 w.heap.size t g k W := by
    subst hW
    refine ⟨?_, ?_, ?_, ?_, ?_, ?_, ?_, ?_, ?_⟩
    all_goals first | (intro j; go_simp; done) | (go_simp; done) | (simp; done)
  have GW := hG.later AtR.of_block b0
  have cW := (b0.cell (p := ⟨p, 0, none⟩) hp).trans hc
  have slR : SlR W W.heap.size a rs.length rs := by
    by_cases e : rs = []
    · exact ⟨rfl, .inl (by rw [e]; rfl)⟩
    · obtain ⟨b, cp, ev, h1, h2, _, _, og⟩ := GrowG.own (hd := hdR) (sz := 4) (fun _ => rfl) GW e
      have ea : a = some ⟨b, 0, none⟩ := by injection ev
      rw [ea]; exact ownR_sl og h2
  have hi := idxFirst W a rs.length cap rs w.heap.size (w.heap.size + 1) (w.heap.size + 1 + 1) (fun j => lgB t g k (atR rs j)) (by unfold maxLen; omega) slR (fun X i a' cap' bX hi' _ => by
    have x := x0.later bX
    have := x.lt
    exact first1_any X (atR rs i) a' cap' t g k _ _ _ x.t0 x.g0 x.k0 (by omega) (by omega) (by omega))
  have HLT := hidOf hG.lt
  have H : Hid (Below w.heap.size w W ∧ W.heap.size = w.heap.size + 4 ∧ B4 w.heap.size t g k W ∧ GrowG 41 4 hdR lnR AtR W base (.slice a rs.length cap) rs gr ∧ p < W.heap.size) := ⟨b0, s0, x0, GW, by omega⟩
  clear hG hc b0 s0 x0 GW slR hp
  subst hW
  go_enter Tryz.func71, Tryz.ntmps71
  go_wp2_with fail
  generalize (((w.alloc (.cells #[.int .i64 t] 2)).alloc (.cells #[.int .i64 g] 2)).alloc (.cells #[.int .i64 k] 2)).alloc (.cells #[.int .i64 0, .int .i64 0, .int .i64 0, .slice none 0 0] 41) = W at *
  refine hi.mono ?_
  clear hi
  rintro e w1 ⟨⟨i, rfl, hf⟩, b1⟩
  have x1 := H.out.2.2.1.later b1
  have c1 := (b1.cell (p := ⟨p, 0, none⟩) H.out.2.2.2.2).trans cW
  obtain ⟨_, _, _, e0, e1, e2, e3, fe, lt1⟩ := x1
  have f0 := fe 0
  have f1 := fe 1
  have f2 := fe 2
  have f3 := fe 3
  have K : Hid (Below w.heap.size w w1 ∧ GrowG 41 4 hdR lnR AtR w1 base (.slice a rs.length cap) rs gr) := ⟨H.out.1.trans (b1.mono H.out.1.size), H.out.2.2.2.1.later AtR.of_block b1⟩
  clear b1 cW fe
  rcases hf with ⟨rfl, hno⟩ | ⟨i, rfl, hin, hyes, hlo⟩
  · have HN := hidOf hno
    clear hno
    go_wp2
    refine bodyPost_ret (v := .tuple #[.agg #[.int .i64 0, .int .i64 0, .int .i64 0, .slice none 0 0], .bool false]) (by simp [results, Tryz.results71, go_sem, e0, e1, e2, e3]) rfl ⟨.inl ⟨rfl, HN.out⟩, ?_⟩
    exact (((K.out.1.setCell (p := ⟨_, _, none⟩) (by simp; omega) _).setCell (p := ⟨_, _, none⟩) (by simp; omega) _).setCell (p := ⟨_, _, none⟩) (by simp; omega) _).setCell (p := ⟨_, _, none⟩) (by simp; omega) _
  · have hne : rs ≠ [] := fun e => by rw [e] at hin; simp at hin
    obtain ⟨b, cp0, ev, hb1, hb2, _, _, og⟩ := GrowG.own (hd := hdR) (sz := 4) (fun _ => rfl) K.out.2 hne
    have ea : a = some ⟨b, 0, none⟩ := by injection ev
    subst ea
    have hri := atR_of hin
    obtain ⟨cp, t3, tc⟩ := og.tail i _ hri
    have t0 := og.head i _ hri 0 (atR rs i).kind rfl
    have t1 := og.head i _ hri 1 (atR rs i).tx rfl
    have t2 := og.head i _ hri 2 (atR rs i).region rfl
    simp only [lnR, Nat.reduceSub, Nat.add_zero] at t3 t0
    have hi2 : (i : Int) < (rs.length : Int) := by omega
    have hi0 : decide ((i : Int) < 0) = false := by simp
    have KA : Hid (lgB t g k (atR rs i) = true ∧ (∀ j, j < i → lgB t g k (atR rs j) = false) ∧ AtR w1 (gr i) (atR rs i) ∧ base ≤ gr i ∧ gr i < w1.heap.size ∧ gr i < w.heap.size) := ⟨hyes, hlo, og.sub i _ hri, og.low i hin, og.lt i hin, HLT.out i hin⟩
    clear og ev hb1 hb2 tc hri hyes hlo
    go_wp2
    obtain ⟨k1, k2, k3, k4, k5, k6⟩ := KA.out
    refine bodyPost_ret (v := .tuple #[.agg #[.int .i64 (atR rs i).kind, .int .i64 (atR rs i).tx, .int .i64 (atR rs i).region, .slice (some ⟨gr i, 0, none⟩) (atR rs i).sets.length cp], .bool true]) (by simp [results, Tryz.results71, go_sem, e0, e1, e2, e3]) rfl ⟨.inr ⟨i, cp, rfl, hin, k1, k2, ?_, k4, by simpa [World.setCell] using k5⟩, ?_⟩
    · exact (((k3.far (by simp; omega) _).far (by simp; omega) _).far (by simp; omega) _).far (by simp; omega) _
    · exact (((K.out.1.setCell (p := ⟨_, _, none⟩) (by simp; omega) _).setCell (p := ⟨_, _, none⟩) (by simp; omega) _).setCell (p := ⟨_, _, none⟩) (by simp; omega) _).setCell (p := ⟨_, _, none⟩) (by simp; omega) _
set_option maxHeartbeats 4000000 in
theorem implLogged_any (w : World) (v : MV) (m : M4) (t g k : Int) (hl : ML m) (hs : SlM w v m) : Calls Tryz.prog 21 #[v.val m, .int .i64 t, .int .i64 g, .int .i64 k] w (LogAns w m t g k) := by
  obtain ⟨ac, cc, al, cl, ad, cd⟩ := v
  simp only [MV.val]
  obtain ⟨W, hW⟩ : ∃ W, W = (w.alloc (.cells #[.bool m.alive, .slice ac m.copies.length cc, .slice al m.log.length cl, .slice ad m.cleared.length cd] 28)).alloc (.cells #[.int .i64 0, .int .i64 0, .int .i64 0, .slice none 0 0] 41) := ⟨_, rfl⟩
  have b0 : Below w.heap.size w W := by subst hW; exact ((Below.refl _ _).alloc (Nat.le_refl _) _).alloc (by simp) _
  have s0 : W.heap.size = w.heap.size + 2 := by subst hW; simp
  have c0 : ∀ X, Below W.heap.size W X → X.cell? ⟨w.heap.size + 1, 0, none⟩ = some (.int .i64 0) ∧ X.cell? ⟨w.heap.size + 1, 1, none⟩ = some (.int .i64 0) ∧ X.cell? ⟨w.heap.size + 1, 2, none⟩ = some (.int .i64 0) ∧ X.cell? ⟨w.heap.size + 1, 3, none⟩ = some (.slice none 0 0) ∧ ∀ j, X.frozen? ⟨w.heap.size + 1, j, none⟩ = false := fun X hX => by
    have l : w.heap.size + 1 < W.heap.size := by omega
    refine ⟨(hX.cell (p := ⟨w.heap.size + 1, 0, none⟩) l).trans ?_, (hX.cell (p := ⟨w.heap.size + 1, 1, none⟩) l).trans ?_, (hX.cell (p := ⟨w.heap.size + 1, 2, none⟩) l).trans ?_, (hX.cell (p := ⟨w.heap.size + 1, 3, none⟩) l).trans ?_, fun j => (hX.frozen (p := ⟨w.heap.size + 1, j, none⟩) l).trans ?_⟩
    all_goals (subst hW; go_simp)
  have ht := take_any W ⟨ac, cc, al, cl, ad, cd⟩ m hl (hs.later b0)
  simp only [MV.val] at ht
  have H : Hid (Below w.heap.size w W ∧ W.heap.size = w.heap.size + 2 ∧ ML m) := ⟨b0, s0, hl⟩
  have HC := hidOf c0
  clear hl hs b0 s0 c0
  subst hW
  go_enter Tryz.func21, Tryz.ntmps21
  go_wp2_with fail
  generalize (w.alloc (.cells #[.bool m.alive, .slice ac m.copies.length cc, .slice al m.log.length cl, .slice ad m.cleared.length cd] 28)).alloc (.cells #[.int .i64 0, .int .i64 0, .int .i64 0, .slice none 0 0] 41) = W at *
  refine ht.mono ?_
  clear ht
  rintro e w1 ⟨t1, t2, b1⟩
  cases hB : machB m with
  | false =>
    obtain rfl := t1 hB
    clear t1 t2
    simp only [noM]
    have bA : Below w1.heap.size w1 (w1.alloc (.cells #[.slice none 0 0, .bool false, .slice none 0 0, .slice none 0 0] 85)) := (Below.refl _ _).alloc (Nat.le_refl _) _
    obtain ⟨e0, e1, e2, e3, fe⟩ := HC.out _ (b1.trans (bA.mono b1.size))
    have f0 := fe 0
    have f1 := fe 1
    have f2 := fe 2
    have f3 := fe 3
    have K : Hid (Below w.heap.size w (w1.alloc (.cells #[.slice none 0 0, .bool false, .slice none 0 0, .slice none 0 0] 85))) := H.out.1.trans ((b1.trans (bA.mono b1.size)).mono H.out.1.size)
    clear b1 bA fe
    go_wp2
    refine bodyPost_ret (v := .tuple #[.agg #[.int .i64 0, .int .i64 0, .int .i64 0, .slice none 0 0], .bool false]) (by simp [results, Tryz.results21, go_sem, e0, e1, e2, e3]) rfl (LogAns.no (ansR_bad t g k hB) ?_)
    exact (((K.out.setCell (p := ⟨_, _, none⟩) (by simp) _).setCell (p := ⟨_, _, none⟩) (by simp) _).setCell (p := ⟨_, _, none⟩) (by simp) _).setCell (p := ⟨_, _, none⟩) (by simp) _
  | true =>
    obtain ⟨⟨uc, uk, ul, uj, ud, ui⟩, p, gk, gr, rfl, mr⟩ := t2 hB
    clear t1 t2
    simp only [MV.own]
    have bA : Below w1.heap.size w1 (w1.alloc (.cells #[.slice ul m.log.length uj, .bool m.alive, .slice uc m.copies.length uk, .slice ud m.cleared.length ui] 85)) := (Below.refl _ _).alloc (Nat.le_refl _) _
    have mrA := mr.later bA
    have cA : (w1.alloc (.cells #[.slice ul m.log.length uj, .bool m.alive, .slice uc m.copies.length uk, .slice ud m.cleared.length ui] 85)).cell? ⟨w1.heap.size, 0, none⟩ = some (.slice ul m.log.length uj) := by go_simp
    have bWA := b1.trans (bA.mono b1.size)
    have hf := first_any (w1.alloc (.cells #[.slice ul m.log.length uj, .bool m.alive, .slice uc m.copies.length uk, .slice ud m.cleared.length ui] 85)) w1.heap.size (W.heap.size + 2) ul uj m.log t g k gr (by have := (MSm.of_mach hB).r; omega) mrA.gR cA (by simp)
    have K : Hid (Below W.heap.size W (w1.alloc (.cells #[.slice ul m.log.length uj, .bool m.alive, .slice uc m.copies.length uk, .slice ud m.cleared.length ui] 85)) ∧ Below w.heap.size w (w1.alloc (.cells #[.slice ul m.log.length uj, .bool m.alive, .slice uc m.copies.length uk, .slice ud m.cleared.length ui] 85))) := ⟨bWA, H.out.1.trans (bWA.mono H.out.1.size)⟩
    clear mr mrA bA b1 bWA
    go_wp2_with fail
    generalize (w1.alloc (.cells #[.slice ul m.log.length uj, .bool m.alive, .slice uc m.copies.length uk, .slice ud m.cleared.length ui] 85)) = W2 at *
    refine hf.mono ?_
    clear hf
    rintro e w3 ⟨hfa, b3⟩
    obtain ⟨e0, e1, e2, e3, fe⟩ := HC.out w3 (K.out.1.trans (b3.mono K.out.1.size))
    have f0 := fe 0
    have f1 := fe 1
    have f2 := fe 2
    have f3 := fe 3
    have K3 : Hid (Below w.heap.size w w3) := K.out.2.trans (b3.mono K.out.2.size)
    clear b3 fe cA
    rcases hfa with ⟨rfl, hno⟩ | ⟨i, cp, rfl, hin, hyes, hlo, hat, hlow, hlt⟩
    · have HN : Hid (ansR m t g k = Option.none) := ansR_none hno
      clear hno
      go_wp2
      refine bodyPost_ret (v := .tuple #[.agg #[.int .i64 0, .int .i64 0, .int .i64 0, .slice none 0 0], .bool false]) (by simp [results, Tryz.results21, go_sem, e0, e1, e2, e3]) rfl (LogAns.no HN.out ?_)
      exact (((K3.out.setCell (p := ⟨_, _, none⟩) (by simp) _).setCell (p := ⟨_, _, none⟩) (by simp) _).setCell (p := ⟨_, _, none⟩) (by simp) _).setCell (p := ⟨_, _, none⟩) (by simp) _
    · have HN : Hid (ansR m t g k = some (atR m.log i)) := ansR_first hB hin hyes hlo
      have KA : Hid (AtR w3 (gr i) (atR m.log i) ∧ w.heap.size + 2 ≤ gr i ∧ gr i < w3.heap.size) := ⟨hat, by have := H.out.2.1; omega, hlt⟩
      clear hyes hlo hat hlow hlt
      simp only [R4.val]
      go_wp2
      refine bodyPost_ret (v := .tuple #[.agg #[.int .i64 (atR m.log i).kind, .int .i64 (atR m.log i).tx, .int .i64 (atR m.log i).region, .slice (some ⟨gr i, 0, none⟩) (atR m.log i).sets.length cp], .bool true]) (by simp [results, Tryz.results21, go_sem, e0, e1, e2, e3]) rfl ⟨some ⟨gr i, 0, none⟩, cp, by simp [ansV, ansH, HN.out, R4.val], .inr ⟨gr i, rfl, by have := KA.out.2.1; omega, by simpa [World.setCell] using KA.out.2.2, ?_, ?_⟩, ?_⟩
      · have := (((KA.out.1.far (p := ⟨w.heap.size + 1, 0, none⟩) (by have := KA.out.2.1; simp; omega) (.int .i64 (atR m.log i).kind)).far (p := ⟨w.heap.size + 1, 1, none⟩) (by have := KA.out.2.1; simp; omega) (.int .i64 (atR m.log i).tx)).far (p := ⟨w.heap.size + 1, 2, none⟩) (by have := KA.out.2.1; simp; omega) (.int .i64 (atR m.log i).region)).far (p := ⟨w.heap.size + 1, 3, none⟩) (by have := KA.out.2.1; simp; omega) (.slice (some ⟨gr i, 0, none⟩) (atR m.log i).sets.length cp)
        simpa [ansV, HN.out] using this.1
      · have := (((KA.out.1.far (p := ⟨w.heap.size + 1, 0, none⟩) (by have := KA.out.2.1; simp; omega) (.int .i64 (atR m.log i).kind)).far (p := ⟨w.heap.size + 1, 1, none⟩) (by have := KA.out.2.1; simp; omega) (.int .i64 (atR m.log i).tx)).far (p := ⟨w.heap.size + 1, 2, none⟩) (by have := KA.out.2.1; simp; omega) (.int .i64 (atR m.log i).region)).far (p := ⟨w.heap.size + 1, 3, none⟩) (by have := KA.out.2.1; simp; omega) (.slice (some ⟨gr i, 0, none⟩) (atR m.log i).sets.length cp)
        simpa [ansV, HN.out] using this.2
      · exact (((K3.out.setCell (p := ⟨_, _, none⟩) (by simp) _).setCell (p := ⟨_, _, none⟩) (by simp) _).setCell (p := ⟨_, _, none⟩) (by simp) _).setCell (p := ⟨_, _, none⟩) (by simp) _
end Go.Proofs.YtooalbdlknheeaaGreat
