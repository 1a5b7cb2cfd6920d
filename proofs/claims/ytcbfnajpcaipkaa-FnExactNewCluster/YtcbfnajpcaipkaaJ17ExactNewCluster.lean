/- KdCl; KdClT; KdGr: joined. -/
import Derived.Test.YtcbfnajpcaipkaaRows
import Derived.Test.YtcbfnajpcaipkaaJ11ExactNewCluster
import Derived.Test.YtcbfnajpcaipkaaJ16ExactNewCluster
import Derived.WalkKit
import Derived.WalkSpells
import Derived.WalkLawsBesides
import Derived.Below
import Derived.Deep.CutRange
import Derived.Test.YtcbfnajpcaipkaaJ10ExactNewCluster
import Derived.Test.YtcbfnajpcaipkaaJ9ExactNewCluster
import Derived.Maps.AppendAt
import Derived.Laws.OwnMore
import Derived.Deep.AppendLies
namespace Go.Proofs.Ytcbfnajpcaipkaa
open Go.RowKit
structure C6 where
  config : Int
  clock : Int
  places : List (List Int)
  machines : List M4
  txs : List tx.T7
  lost : Bool
def KP.Ow (w : World) (B : Nat) (a : Option Addr) (zss : List (List Int)) (P : Nat → Prop) : Prop := (∃ g, OwnQ w B a zss.length zss g ∧ (∀ b, a = some ⟨b, 0, none⟩ → P b) ∧ (∀ i, i < zss.length → P (g i))) ∧ (∀ q, P q → B ≤ q ∧ q < w.heap.size)
theorem KP.Ow.of {w : World} {B : Nat} {a : Option Addr} {zss : List (List Int)} {P : Nat → Prop} (h : KP.Ow w B a zss P) {q : Nat} (hq : P q) : B ≤ q ∧ q < w.heap.size := h.2 q hq
theorem KP.Ow.sl {w : World} {B : Nat} {a : Option Addr} {zss : List (List Int)} {P : Nat → Prop} (h : KP.Ow w B a zss P) : SlP w w.heap.size a zss.length zss := by obtain ⟨⟨g, h, _⟩, _⟩ := h; exact h.sl
theorem KP.Ow.keep {w w' : World} {B : Nat} {a : Option Addr} {zss : List (List Int)} {P : Nat → Prop} (h : KP.Ow w B a zss P) (hs : w.heap.size ≤ w'.heap.size) (hk : ∀ q, P q → w'.heap[q]? = w.heap[q]?) : KP.Ow w' B a zss P := by
  obtain ⟨⟨g, h1, h2, h3⟩, h4⟩ := h
  exact ⟨⟨g, h1.kept hs (fun b e => hk b (h2 b e)) (fun i hi => hk _ (h3 i hi)), h2, h3⟩, fun q hq => ⟨(h4 q hq).1, Nat.lt_of_lt_of_le (h4 q hq).2 hs⟩⟩
theorem KP.Ow.later {w w' : World} {B : Nat} {a : Option Addr} {zss : List (List Int)} {P : Nat → Prop} (h : KP.Ow w B a zss P) (hb : Below w.heap.size w w') : KP.Ow w' B a zss P := h.keep hb.size (fun q hq => hb.block q (h.of hq).2)
theorem KP.to (w : World) (a : Option Addr) (cap : Nat) (zss : List (List Int)) (hn : zss.length ≤ 1048576) (hl : ∀ zs ∈ zss, zs.length ≤ 1048576) (hs : SlP w w.heap.size a zss.length zss) : Calls Try.prog 15 #[.slice a zss.length cap] w fun e w' =>
    ∃ P, e = .returned (.slice (some ⟨w.heap.size, 0, none⟩) zss.length zss.length) ∧ KP.Ow w' w.heap.size (some ⟨w.heap.size, 0, none⟩) zss P ∧ Below w.heap.size w w' := by
  refine (toPlaceS_any w a zss.length cap zss hn hl hs).mono ?_
  rintro e w' ⟨g, rfl, b, hlt, ho⟩
  have hq : OwnQ w' w.heap.size (some ⟨w.heap.size, 0, none⟩) zss.length zss g := .inr ⟨w.heap.size, rfl, Nat.le_refl _, hlt, ho⟩
  refine ⟨fun q => q = w.heap.size ∨ ∃ i, i < zss.length ∧ g i = q, rfl, ⟨⟨g, hq, fun b e => .inl (by cases e; rfl), fun i hi => .inr ⟨i, hi, rfl⟩⟩, fun q h => ?_⟩, b⟩
  rcases h with rfl | ⟨i, hi, rfl⟩
  · exact ⟨Nat.le_refl _, hlt⟩
  · exact ⟨hq.low i hi, hq.lt i hi⟩
structure KCl.Rd (X : World) (a1 : Option Addr) (_ : Nat) (a2 : Option Addr) (_ : Nat) (a3 : Option Addr) (_ : Nat) (k : C6) : Prop where
  p : SlP X X.heap.size a1 k.places.length k.places
  m : KMk.RdS X a2 k.machines
  t : KTk.RdS X a3 k.txs
theorem KCl.Rd.later {X Y : World} {a1 : Option Addr} {c1 : Nat} {a2 : Option Addr} {c2 : Nat} {a3 : Option Addr} {c3 : Nat} {k : C6} (h : KCl.Rd X a1 c1 a2 c2 a3 c3 k) (b : Below X.heap.size X Y) : KCl.Rd Y a1 c1 a2 c2 a3 c3 k := ⟨h.p.later b, h.m.later b, h.t.later b⟩
def KCl.Ow (w : World) (B : Nat) (a1 : Option Addr) (_ : Nat) (a2 : Option Addr) (_ : Nat) (a3 : Option Addr) (_ : Nat) (k : C6) (P : Nat → Prop) : Prop := (∃ P1 P2 P3, KP.Ow w B a1 k.places P1 ∧ KMk.OwS w B a2 k.machines P2 ∧ KTk.OwS w B a3 k.txs P3 ∧ (∀ q, P1 q → P q) ∧ (∀ q, P2 q → P q) ∧ (∀ q, P3 q → P q) ∧ (∀ q, P1 q → ¬ P2 q) ∧ (∀ q, P1 q → ¬ P3 q) ∧ (∀ q, P2 q → ¬ P3 q)) ∧ (∀ q, P q → B ≤ q ∧ q < w.heap.size)
theorem KCl.Ow.of {w : World} {B : Nat} {a1 : Option Addr} {c1 : Nat} {a2 : Option Addr} {c2 : Nat} {a3 : Option Addr} {c3 : Nat} {k : C6} {P : Nat → Prop} (h : KCl.Ow w B a1 c1 a2 c2 a3 c3 k P) {q : Nat} (hq : P q) : B ≤ q ∧ q < w.heap.size := h.2 q hq
theorem KCl.Ow.sl {w : World} {B : Nat} {a1 : Option Addr} {c1 : Nat} {a2 : Option Addr} {c2 : Nat} {a3 : Option Addr} {c3 : Nat} {k : C6} {P : Nat → Prop} (h : KCl.Ow w B a1 c1 a2 c2 a3 c3 k P) : KCl.Rd w a1 c1 a2 c2 a3 c3 k := by obtain ⟨⟨_, _, _, h1, h2, h3, _⟩, _⟩ := h; exact ⟨h1.sl, h2.sl, h3.sl⟩
theorem KCl.Ow.keep {w : World} {B : Nat} {a1 : Option Addr} {c1 : Nat} {a2 : Option Addr} {c2 : Nat} {a3 : Option Addr} {c3 : Nat} {k : C6} {P : Nat → Prop} {w' : World} (h : KCl.Ow w B a1 c1 a2 c2 a3 c3 k P) (hs : w.heap.size ≤ w'.heap.size) (hk : ∀ q, P q → w'.heap[q]? = w.heap[q]?) : KCl.Ow w' B a1 c1 a2 c2 a3 c3 k P := by
  obtain ⟨⟨P1, P2, P3, h1, h2, h3, p1, p2, p3, h4⟩, h5⟩ := h
  exact ⟨⟨P1, P2, P3, h1.keep hs (fun q hq => hk q (p1 q hq)), h2.keep hs (fun q hq => hk q (p2 q hq)), h3.keep hs (fun q hq => hk q (p3 q hq)), p1, p2, p3, h4⟩, fun q hq => ⟨(h5 q hq).1, Nat.lt_of_lt_of_le (h5 q hq).2 hs⟩⟩
theorem KCl.Ow.later {w : World} {B : Nat} {a1 : Option Addr} {c1 : Nat} {a2 : Option Addr} {c2 : Nat} {a3 : Option Addr} {c3 : Nat} {k : C6} {P : Nat → Prop} {w' : World} (h : KCl.Ow w B a1 c1 a2 c2 a3 c3 k P) (hb : Below w.heap.size w w') : KCl.Ow w' B a1 c1 a2 c2 a3 c3 k P := h.keep hb.size (fun q hq => hb.block q (h.of hq).2)
structure KCl.S (k : C6) : Prop where
  p : k.places.length ≤ 1048576
  ps : ∀ zs ∈ k.places, zs.length ≤ 1048576
  m : k.machines.length ≤ 1048576
  ms : ∀ m ∈ k.machines, MT m
  t : k.txs.length ≤ 1048576
  ts : ∀ t ∈ k.txs, KT.S t
theorem KP.Ow.low {w : World} {B B' : Nat} {a : Option Addr} {zss : List (List Int)} {P : Nat → Prop} (h : KP.Ow w B a zss P) (hb : B' ≤ B) : KP.Ow w B' a zss P := by
  obtain ⟨⟨g, h1, h2, h3⟩, h4⟩ := h
  exact ⟨⟨g, h1.lower hb, h2, h3⟩, fun q hq => ⟨Nat.le_trans hb (h4 q hq).1, (h4 q hq).2⟩⟩
set_option maxRecDepth 100000 in
set_option maxHeartbeats 4000000 in
theorem KCl.eq (X : World) (a1 : Option Addr) (c1 : Nat) (a2 : Option Addr) (c2 : Nat) (a3 : Option Addr) (c3 : Nat) (a1' : Option Addr) (c1' : Nat) (a2' : Option Addr) (c2' : Nat) (a3' : Option Addr) (c3' : Nat) (k : C6) (ht : KCl.S k) (h1 : KCl.Rd X a1 c1 a2 c2 a3 c3 k) (h2 : KCl.Rd X a1' c1' a2' c2' a3' c3' k) : Calls Try.prog 10 #[.agg #[.int .i64 k.config, .int .i64 k.clock, .slice a1 k.places.length c1, .slice a2 k.machines.length c2, .slice a3 k.txs.length c3, .bool k.lost], .agg #[.int .i64 k.config, .int .i64 k.clock, .slice a1' k.places.length c1', .slice a2' k.machines.length c2', .slice a3' k.txs.length c3', .bool k.lost]] X fun e w' => e = .returned (.bool true) ∧ Below X.heap.size X w' := by
  obtain ⟨U0, hU0⟩ : ∃ Y, Y = X.alloc (.cells #[.int .i64 k.config, .int .i64 k.clock, .slice a1 k.places.length c1, .slice a2 k.machines.length c2, .slice a3 k.txs.length c3, .bool k.lost] 26) := ⟨_, rfl⟩
  have b0 : Below X.heap.size X U0 := by rw [hU0]; exact (Below.refl _ _).alloc (Nat.le_refl _) _
  have x0 : Bx U0 X.heap.size [.int .i64 k.config, .int .i64 k.clock, .slice a1 k.places.length c1, .slice a2 k.machines.length c2, .slice a3 k.txs.length c3, .bool k.lost] := by rw [hU0]; exact Bx.made X [.int .i64 k.config, .int .i64 k.clock, .slice a1 k.places.length c1, .slice a2 k.machines.length c2, .slice a3 k.txs.length c3, .bool k.lost] _
  have z0 : U0.heap.size = X.heap.size + 1 := by rw [hU0]; simp
  obtain ⟨U, hU⟩ : ∃ Y, Y = U0.alloc (.cells #[.int .i64 k.config, .int .i64 k.clock, .slice a1' k.places.length c1', .slice a2' k.machines.length c2', .slice a3' k.txs.length c3', .bool k.lost] 26) := ⟨_, rfl⟩
  have b1 : Below U0.heap.size U0 U := by rw [hU]; exact (Below.refl _ _).alloc (Nat.le_refl _) _
  have x1 : Bx U U0.heap.size [.int .i64 k.config, .int .i64 k.clock, .slice a1' k.places.length c1', .slice a2' k.machines.length c2', .slice a3' k.txs.length c3', .bool k.lost] := by rw [hU]; exact Bx.made U0 [.int .i64 k.config, .int .i64 k.clock, .slice a1' k.places.length c1', .slice a2' k.machines.length c2', .slice a3' k.txs.length c3', .bool k.lost] _
  rw [z0] at x1
  have bU : Below X.heap.size X U := bstep b0 b1
  have FA : Hid (Bx U X.heap.size [.int .i64 k.config, .int .i64 k.clock, .slice a1 k.places.length c1, .slice a2 k.machines.length c2, .slice a3 k.txs.length c3, .bool k.lost]) := x0.later b1
  have FB : Hid (Bx U (X.heap.size + 1) [.int .i64 k.config, .int .i64 k.clock, .slice a1' k.places.length c1', .slice a2' k.machines.length c2', .slice a3' k.txs.length c3', .bool k.lost]) := x1
  have HR : Hid (KCl.Rd U a1 c1 a2 c2 a3 c3 k ∧ KCl.Rd U a1' c1' a2' c2' a3' c3' k ∧ KCl.S k ∧ Below X.heap.size X U) := ⟨h1.later bU, h2.later bU, ht, bU⟩
  rw [hU0] at hU
  clear b0 x0 z0 b1 x1 bU hU0 h1 h2 ht
  have d0 : (k.config != k.config) = false := by simp
  have d1 : (k.clock != k.clock) = false := by simp
  have d5 : (k.lost != k.lost) = false := by simp
  have p0 := FA.out.1 0 _ rfl
  have p1 := FA.out.1 1 _ rfl
  have p2 := FA.out.1 2 _ rfl
  have r0 := FB.out.1 0 _ rfl
  have r1 := FB.out.1 1 _ rfl
  have r2 := FB.out.1 2 _ rfl
  rw [hU] at p0 p1 p2 r0 r1 r2
  go_enter Try.func10, Try.ntmps10
  go_wp2_with fail
  rw [← hU]
  clear hU p0 p1 p2 r0 r1 r2
  refine (eqPlaceS_any U a1 a1' k.places.length c1 c1' k.places (by have := HR.out.2.2.1.p; unfold maxLen; omega) (fun z hz => by have := HR.out.2.2.1.ps z hz; unfold maxLen; omega) HR.out.1.p HR.out.2.1.p).mono ?_
  rintro e w1 ⟨rfl, b1⟩
  have B1 := tx.hidOf b1
  clear b1
  have p3 := (FA.out.later B1.out).1 3 _ rfl
  have r3 := (FB.out.later B1.out).1 3 _ rfl
  go_wp2_with fail
  refine (KMS.eq w1 a2 a2' c2 c2' k.machines HR.out.2.2.1.m HR.out.2.2.1.ms (HR.out.1.later B1.out).m (HR.out.2.1.later B1.out).m).mono ?_
  rintro e w2 ⟨rfl, b2⟩
  have B2 : Hid (Below U.heap.size U w2) := bstep B1.out b2
  clear b2 p3 r3
  have p4 := (FA.out.later B2.out).1 4 _ rfl
  have r4 := (FB.out.later B2.out).1 4 _ rfl
  go_wp2_with fail
  refine (KTS.eq w2 a3 a3' c3 c3' k.txs HR.out.2.2.1.t HR.out.2.2.1.ts (HR.out.1.later B2.out).t (HR.out.2.1.later B2.out).t).mono ?_
  rintro e w3 ⟨rfl, b3⟩
  have B3 : Hid (Below U.heap.size U w3) := bstep B2.out b3
  clear b3 p4 r4
  have p5 := (FA.out.later B3.out).1 5 _ rfl
  have r5 := (FB.out.later B3.out).1 5 _ rfl
  go_wp2
  go_ret
  exact ⟨rfl, bstep HR.out.2.2.2 B3.out⟩
def Kd.flat {D V : Type} (K : Kd D V) (ps : List (V × D)) : List Value := ps.flatMap fun p => K.cells p.1 p.2
theorem Kd.flat_len {D V : Type} (K : Kd D V) (ps : List (V × D)) : (K.flat ps).length = ps.length * K.n := by
  induction ps with
  | nil => simp [Kd.flat]
  | cons p ps ih =>
    unfold Kd.flat at ih ⊢
    rw [List.flatMap_cons, List.length_append, ih, K.len, List.length_cons, Nat.add_mul]
    omega
theorem Kd.flat_at {D V : Type} (K : Kd D V) {ps : List (V × D)} {i t : Nat} {p : V × D} (h : ps[i]? = some p) (ht : t < K.n) : (K.flat ps)[i * K.n + t]? = (K.cells p.1 p.2)[t]? := Go.Proofs.Ytcbfnajpcaipkaa.flat_at (f := fun p : V × D => K.cells p.1 p.2) (fun _ _ => K.len _ _) h ht
theorem Kd.flat_snoc {D V : Type} (K : Kd D V) (ps : List (V × D)) (p : V × D) : K.flat (ps ++ [p]) = K.flat ps ++ K.cells p.1 p.2 := by simp [Kd.flat]
structure Kd.Grow {D V : Type} (K : Kd D V) (T : TypeId) (X : World) (B : Nat) (v : Value) (ps : List (V × D)) (g : Nat → Nat → Prop) : Prop where
  row : X.ownsRow B T K.n v ps.length (K.flat ps)
  sub : ∀ i p, ps[i]? = some p → K.Ow X B p.1 p.2 (g i)
  ne : ∀ i q, i < ps.length → g i q → v.ownBlock ≠ some q
  ap : ∀ i j q, i < ps.length → j < ps.length → i ≠ j → g i q → ¬ g j q
def Kd.blk {D V : Type} (v : Value) (ps : List (V × D)) (g : Nat → Nat → Prop) (q : Nat) : Prop := v.ownBlock = some q ∨ ∃ i, i < ps.length ∧ g i q
theorem Kd.Grow.nil {D V : Type} (K : Kd D V) (T : TypeId) (X : World) (B : Nat) (g : Nat → Nat → Prop) : K.Grow T X B (.slice none 0 0) [] g :=
  ⟨⟨by simp [Kd.flat], .inl ⟨rfl, rfl⟩⟩, fun i p e => by simp at e, fun i q h => by simp at h, fun i j q h => by simp at h⟩
theorem Kd.Grow.blocks {D V : Type} {K : Kd D V} {T : TypeId} {X : World} {B : Nat} {v : Value} {ps : List (V × D)} {g : Nat → Nat → Prop} (h : K.Grow T X B v ps g) {q : Nat} (hq : Kd.blk v ps g q) : B ≤ q ∧ q < X.heap.size := by
  rcases hq with e | ⟨i, hi, hq⟩
  · exact World.ownsRow.lt h.row q e
  · exact K.of (h.sub i _ (List.getElem?_eq_getElem hi)) hq
theorem Kd.Grow.keep {D V : Type} {K : Kd D V} {T : TypeId} {X Y : World} {B : Nat} {v : Value} {ps : List (V × D)} {g : Nat → Nat → Prop} (h : K.Grow T X B v ps g) (hs : X.heap.size ≤ Y.heap.size) (hk : ∀ q, Kd.blk v ps g q → Y.heap[q]? = X.heap[q]?) : K.Grow T Y B v ps g := by
  refine ⟨⟨h.row.1, h.row.2.imp id ?_⟩, fun i p e => K.keep (h.sub i p e) hs (fun q hq => hk q (.inr ⟨i, (List.getElem?_eq_some_iff.1 e).1, hq⟩)), h.ne, h.ap⟩
  rintro ⟨q, cap, cur, rfl, l, hg, r⟩
  exact ⟨q, cap, cur, rfl, l, (hk q (.inl rfl)).trans hg, r⟩
theorem Kd.Grow.later {D V : Type} {K : Kd D V} {T : TypeId} {X Y : World} {B : Nat} {v : Value} {ps : List (V × D)} {g : Nat → Nat → Prop} (h : K.Grow T X B v ps g) (hb : Below X.heap.size X Y) : K.Grow T Y B v ps g := h.keep hb.size (fun q hq => hb.block q (h.blocks hq).2)
theorem Kd.Grow.form {D V : Type} {K : Kd D V} {T : TypeId} {X : World} {B : Nat} {v : Value} {ps : List (V × D)} {g : Nat → Nat → Prop} (h : K.Grow T X B v ps g) : ∃ a cap, v = .slice a ps.length cap := by
  rcases h.row.2 with ⟨rfl, h0⟩ | ⟨q, cap, cur, rfl, _⟩
  · exact ⟨none, 0, by rw [h0]⟩
  · exact ⟨_, _, rfl⟩
theorem Kd.Grow.own {D V : Type} {K : Kd D V} {T : TypeId} {X : World} {B : Nat} {a : Option Addr} {m cap : Nat} {ps : List (V × D)} {g : Nat → Nat → Prop} (h : K.Grow T X B (.slice a m cap) ps g) {ds : List D} (hd : ps.map (·.2) = ds) : K.OwS X B a ds (Kd.blk (.slice a m cap) ps g) := by
  refine ⟨?_, fun q hq => h.blocks hq⟩
  by_cases e : ps = []
  · left; rw [← hd, e]; rfl
  have hpos : 0 < ps.length := List.length_pos_iff.2 e
  obtain ⟨b, cap', ev, hB, hlt⟩ := World.ownsRow.form h.row hpos
  have hl : ds.length = ps.length := by rw [← hd]; simp
  have hrow := h.row
  rw [ev] at hrow
  have ea : a = some ⟨b, 0, none⟩ := by injection ev
  have eb : (Value.slice a m cap).ownBlock = some b := by rw [ea]; rfl
  refine .inr ⟨b, g, ea, .inl eb, ⟨fun j hj => ?_, fun i d hi => ?_, fun i q hi hq e' => ?_, fun i j q hi hj => h.ap i j q (by omega) (by omega)⟩, fun i q hi hq => .inr ⟨i, by omega, hq⟩⟩
  · rw [hl] at hj
    have hx : j < (K.flat ps).length := by rw [K.flat_len]; exact hj
    exact ⟨_, by rw [World.ownsRow.cellAt hrow j hj]; exact List.getElem?_eq_getElem hx, World.ownsRow.frozenAt hrow j⟩
  · have hip : i < ps.length := by have := (List.getElem?_eq_some_iff.1 hi).1; omega
    have hp := List.getElem?_eq_getElem hip
    have hde : (ps[i]).2 = d := by
      rw [← hd, List.getElem?_map, hp] at hi
      simpa using hi
    refine ⟨(ps[i]).1, fun t u hu => ?_, by rw [← hde]; exact h.sub i _ hp⟩
    rw [← hde] at hu
    have ht : t < K.n := by have := (List.getElem?_eq_some_iff.1 hu).1; rwa [K.len] at this
    have hm : i * K.n + K.n ≤ ps.length * K.n := by rw [← Nat.succ_mul]; exact Nat.mul_le_mul_right _ hip
    rw [World.ownsRow.cellAt hrow _ (by omega), K.flat_at hp ht]
    exact hu
  · subst e'; exact h.ne i q (by omega) hq eb
theorem Kd.Grow.push {D V : Type} {K : Kd D V} {T ST : TypeId} {by_ : Nat} {P : Program} {i0 : TypeInfo} {z : Value} (ht : P.underlying ST = some (.slice T)) (hi : P.info? T = some i0) (hz : i0.zero = some z) (hs : i0.size = K.n) (hby : i0.bytes = by_) (hzs : z.cells.size = K.n) (hbb : by_ ≤ 1000) (hn0 : 0 < K.n)
    {W : World} {B e : Nat} {v : Value} {ps : List (V × D)} {g : Nat → Nat → Prop} (h : K.Grow T W B v ps g) (x : V) (d : D) (Q : Nat → Prop) (hm : ps.length ≤ 1100000) (ty : TypeId)
    (he : ∀ j u, (K.cells x d)[j]? = some u → W.cell? ⟨e, j, none⟩ = some u) (h1 : ∀ u ∈ K.cells x d, u.oneCell' = true) (ho : K.Ow W B x d Q) (hf : ∀ q, Q q → ¬ Kd.blk v ps g q) (hB : B ≤ W.heap.size) :
    ∃ v' W', (Builtin.append_ #[ST, ST] ty #[v, .slice (some ⟨e, 0, none⟩) 1 1]).run P W = .ok v' W' ∧ K.Grow T W' B v' (ps ++ [(x, d)]) (fun i => if i = ps.length then Q else g i) ∧ W.grownBy W' v.ownBlock ∧ (v'.ownBlock = v.ownBlock ∨ v'.ownBlock = some W.heap.size) := by
  have hadd : ∀ (b o j : Nat), (⟨b, o, none⟩ : Addr).add j = ⟨b, o + j, none⟩ := fun b o j => by unfold Addr.add; split <;> simp_all
  obtain ⟨v', W', hrun, hown, hg, hnil, hlies⟩ := run_append_own_at (P := P) W B ST ty T i0 z K.n by_ ht hi hz hs hby hzs hn0
    v ps.length _ h.row ⟨e, 0, none⟩ 1 1 (K.cells x d) (by rw [K.len]; omega) (fun j u hu => by rw [hadd, Nat.zero_add]; exact he j u hu) h1 (by unfold maxLen; omega) (by
      have : (ps.length + 1) * by_ ≤ 1100001 * 1000 := Nat.mul_le_mul (by omega) hbb
      omega) hB
  have far : ∀ q, q < W.heap.size → v.ownBlock ≠ some q → W'.heap[q]? = W.heap[q]? := fun q hq hne => hg.block q hq (fun e' => hne e'.symm)
  have nev : ∀ q, q < W.heap.size → v.ownBlock ≠ some q → v'.ownBlock ≠ some q := fun q hq hne => by
    rcases hlies with e' | e'
    · rw [e']; exact hne
    · rw [e']; intro e''; cases e''; omega
  have hlen : (ps ++ [(x, d)]).length = ps.length + 1 := by simp
  refine ⟨v', W', hrun, ⟨by rw [K.flat_snoc, hlen]; exact hown, fun i p e' => ?_, fun i q hi' hq => ?_, fun i j q hi' hj' hij h1 h2 => ?_⟩, hg, hlies⟩
  · by_cases hl : i < ps.length
    · rw [List.getElem?_append_left hl] at e'
      simp only [if_neg (show i ≠ ps.length by omega)]
      have hsub := h.sub i p e'
      exact K.keep hsub hg.size (fun q hq => far q (K.of hsub hq).2 (h.ne i q hl hq))
    · have hi2 : i = ps.length := by have := (List.getElem?_eq_some_iff.1 e').1; omega
      subst hi2
      rw [List.getElem?_append_right (Nat.le_refl _)] at e'
      simp at e'
      subst e'
      simp only [if_pos]
      exact K.keep ho hg.size (fun q hq => far q (K.of ho hq).2 (fun e'' => hf q hq (.inl e'')))
  · by_cases e1 : i = ps.length
    · simp only [if_pos e1] at hq
      exact nev q (K.of ho hq).2 (fun e'' => hf q hq (.inl e''))
    · simp only [if_neg e1] at hq
      have hi2 : i < ps.length := by omega
      exact nev q (h.blocks (.inr ⟨i, hi2, hq⟩)).2 (h.ne i q hi2 hq)
  · by_cases e1 : i = ps.length
    · by_cases e2 : j = ps.length
      · omega
      · simp only [if_pos e1] at h1; simp only [if_neg e2] at h2; exact hf q h1 (.inr ⟨j, by omega, h2⟩)
    · by_cases e2 : j = ps.length
      · simp only [if_neg e1] at h1; simp only [if_pos e2] at h2; exact hf q h2 (.inr ⟨i, by omega, h1⟩)
      · simp only [if_neg e1] at h1; simp only [if_neg e2] at h2; exact h.ap i j q (by omega) (by omega) hij h1 h2
end Go.Proofs.Ytcbfnajpcaipkaa