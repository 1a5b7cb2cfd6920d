/- KdCl; PlsL; KdClS: joined. -/
import Derived.Test.YtalmflikdnflfaaGreatRows
import Derived.Test.YtalmflikdnflfaaGreatKdMSJ
import Derived.Test.YtalmflikdnflfaaGreatKdTSJ
import Derived.Test.YtalmflikdnflfaaGreatJ22ExactFind
import Derived.WalkKit
import Derived.WalkSpells
import Derived.WalkLawsBesides
import Derived.Below
import Derived.Test.YtalmflikdnflfaaGreatJ4ExactFind
import Derived.BigQuiet
import Derived.Deep.QuietTactic
import Derived.Lib.QuietBelow
/- The cluster as a kind of data. -/
namespace Go.Proofs.YtalmflikdnflfaaGreat
open Go.RowKit
/-- A cluster. -/
structure C6 where
  config : Int
  clock : Int
  places : List (List Int)
  machines : List M4
  txs : List tx.T7
  lost : Bool
/-- Places of a call's own, in the blocks P. -/
def KP.Ow (w : World) (B : Nat) (a : Option Addr) (zss : List (List Int)) (P : Nat → Prop) : Prop := (∃ g, OwnQ w B a zss.length zss g ∧ (∀ b, a = some ⟨b, 0, none⟩ → P b) ∧ (∀ i, i < zss.length → P (g i))) ∧ (∀ q, P q → B ≤ q ∧ q < w.heap.size)
theorem KP.Ow.of {w : World} {B : Nat} {a : Option Addr} {zss : List (List Int)} {P : Nat → Prop} (h : KP.Ow w B a zss P) {q : Nat} (hq : P q) : B ≤ q ∧ q < w.heap.size := h.2 q hq
theorem KP.Ow.sl {w : World} {B : Nat} {a : Option Addr} {zss : List (List Int)} {P : Nat → Prop} (h : KP.Ow w B a zss P) : SlP w w.heap.size a zss.length zss := by obtain ⟨⟨g, h, _⟩, _⟩ := h; exact h.sl
theorem KP.Ow.keep {w w' : World} {B : Nat} {a : Option Addr} {zss : List (List Int)} {P : Nat → Prop} (h : KP.Ow w B a zss P) (hs : w.heap.size ≤ w'.heap.size) (hk : ∀ q, P q → w'.heap[q]? = w.heap[q]?) : KP.Ow w' B a zss P := by
  obtain ⟨⟨g, h1, h2, h3⟩, h4⟩ := h
  exact ⟨⟨g, h1.kept hs (fun b e => hk b (h2 b e)) (fun i hi => hk _ (h3 i hi)), h2, h3⟩, fun q hq => ⟨(h4 q hq).1, Nat.lt_of_lt_of_le (h4 q hq).2 hs⟩⟩
theorem KP.Ow.later {w w' : World} {B : Nat} {a : Option Addr} {zss : List (List Int)} {P : Nat → Prop} (h : KP.Ow w B a zss P) (hb : Below w.heap.size w w') : KP.Ow w' B a zss P := h.keep hb.size (fun q hq => hb.block q (h.of hq).2)
theorem KP.to (w : World) (a : Option Addr) (cap : Nat) (zss : List (List Int)) (hn : zss.length ≤ 1048576) (hl : ∀ zs ∈ zss, zs.length ≤ 1048576) (hs : SlP w w.heap.size a zss.length zss) : Calls Tryz.prog 37 #[.slice a zss.length cap] w fun e w' =>
    ∃ P, e = .returned (.slice (some ⟨w.heap.size, 0, none⟩) zss.length zss.length) ∧ KP.Ow w' w.heap.size (some ⟨w.heap.size, 0, none⟩) zss P ∧ Below w.heap.size w w' := by
  refine (toPlaceS_any w a zss.length cap zss hn hl hs).mono ?_
  rintro e w' ⟨g, rfl, b, hlt, ho⟩
  have hq : OwnQ w' w.heap.size (some ⟨w.heap.size, 0, none⟩) zss.length zss g := .inr ⟨w.heap.size, rfl, Nat.le_refl _, hlt, ho⟩
  refine ⟨fun q => q = w.heap.size ∨ ∃ i, i < zss.length ∧ g i = q, rfl, ⟨⟨g, hq, fun b e => .inl (by cases e; rfl), fun i hi => .inr ⟨i, hi, rfl⟩⟩, fun q h => ?_⟩, b⟩
  rcases h with rfl | ⟨i, hi, rfl⟩
  · exact ⟨Nat.le_refl _, hlt⟩
  · exact ⟨hq.low i hi, hq.lt i hi⟩
/-- A cluster that can be read. -/
structure KCl.Rd (X : World) (a1 : Option Addr) (_ : Nat) (a2 : Option Addr) (_ : Nat) (a3 : Option Addr) (_ : Nat) (k : C6) : Prop where
  p : SlP X X.heap.size a1 k.places.length k.places
  m : KMk.RdS X a2 k.machines
  t : KTk.RdS X a3 k.txs
theorem KCl.Rd.later {X Y : World} {a1 : Option Addr} {c1 : Nat} {a2 : Option Addr} {c2 : Nat} {a3 : Option Addr} {c3 : Nat} {k : C6} (h : KCl.Rd X a1 c1 a2 c2 a3 c3 k) (b : Below X.heap.size X Y) : KCl.Rd Y a1 c1 a2 c2 a3 c3 k := ⟨h.p.later b, h.m.later b, h.t.later b⟩
/-- A cluster of a call's own, in the blocks P. -/
def KCl.Ow (w : World) (B : Nat) (a1 : Option Addr) (_ : Nat) (a2 : Option Addr) (_ : Nat) (a3 : Option Addr) (_ : Nat) (k : C6) (P : Nat → Prop) : Prop := (∃ P1 P2 P3, KP.Ow w B a1 k.places P1 ∧ KMk.OwS w B a2 k.machines P2 ∧ KTk.OwS w B a3 k.txs P3 ∧ (∀ q, P1 q → P q) ∧ (∀ q, P2 q → P q) ∧ (∀ q, P3 q → P q) ∧ (∀ q, P1 q → ¬ P2 q) ∧ (∀ q, P1 q → ¬ P3 q) ∧ (∀ q, P2 q → ¬ P3 q)) ∧ (∀ q, P q → B ≤ q ∧ q < w.heap.size)
theorem KCl.Ow.of {w : World} {B : Nat} {a1 : Option Addr} {c1 : Nat} {a2 : Option Addr} {c2 : Nat} {a3 : Option Addr} {c3 : Nat} {k : C6} {P : Nat → Prop} (h : KCl.Ow w B a1 c1 a2 c2 a3 c3 k P) {q : Nat} (hq : P q) : B ≤ q ∧ q < w.heap.size := h.2 q hq
theorem KCl.Ow.sl {w : World} {B : Nat} {a1 : Option Addr} {c1 : Nat} {a2 : Option Addr} {c2 : Nat} {a3 : Option Addr} {c3 : Nat} {k : C6} {P : Nat → Prop} (h : KCl.Ow w B a1 c1 a2 c2 a3 c3 k P) : KCl.Rd w a1 c1 a2 c2 a3 c3 k := by obtain ⟨⟨_, _, _, h1, h2, h3, _⟩, _⟩ := h; exact ⟨h1.sl, h2.sl, h3.sl⟩
theorem KCl.Ow.keep {w : World} {B : Nat} {a1 : Option Addr} {c1 : Nat} {a2 : Option Addr} {c2 : Nat} {a3 : Option Addr} {c3 : Nat} {k : C6} {P : Nat → Prop} {w' : World} (h : KCl.Ow w B a1 c1 a2 c2 a3 c3 k P) (hs : w.heap.size ≤ w'.heap.size) (hk : ∀ q, P q → w'.heap[q]? = w.heap[q]?) : KCl.Ow w' B a1 c1 a2 c2 a3 c3 k P := by
  obtain ⟨⟨P1, P2, P3, h1, h2, h3, p1, p2, p3, h4⟩, h5⟩ := h
  exact ⟨⟨P1, P2, P3, h1.keep hs (fun q hq => hk q (p1 q hq)), h2.keep hs (fun q hq => hk q (p2 q hq)), h3.keep hs (fun q hq => hk q (p3 q hq)), p1, p2, p3, h4⟩, fun q hq => ⟨(h5 q hq).1, Nat.lt_of_lt_of_le (h5 q hq).2 hs⟩⟩
theorem KCl.Ow.later {w : World} {B : Nat} {a1 : Option Addr} {c1 : Nat} {a2 : Option Addr} {c2 : Nat} {a3 : Option Addr} {c3 : Nat} {k : C6} {P : Nat → Prop} {w' : World} (h : KCl.Ow w B a1 c1 a2 c2 a3 c3 k P) (hb : Below w.heap.size w w') : KCl.Ow w' B a1 c1 a2 c2 a3 c3 k P := h.keep hb.size (fun q hq => hb.block q (h.of hq).2)
/-- Lengths that the laws' helpers can count. -/
structure KCl.S (k : C6) : Prop where
  p : k.places.length ≤ 1048576
  ps : ∀ zs ∈ k.places, zs.length ≤ 1048576
  m : k.machines.length ≤ 1048576
  ms : ∀ m ∈ k.machines, MT m
  t : k.txs.length ≤ 1048576
  ts : ∀ t ∈ k.txs, KT.S t
end Go.Proofs.YtalmflikdnflfaaGreat
/- The laws' own counts, copies, comparisons and marks of Places. -/
namespace Go.Proofs.YtalmflikdnflfaaGreat
open Go.RowKit
open Go.Sort (grow)
theorem szInt64S_any (w : World) (a : Option Addr) (n cap : Nat) (l : Nat) (hn : n ≤ maxLen) (hl : l ≤ 1048576) : Calls Tryz.prog 114 #[.slice a n cap, .int .i64 (l : Int)] w fun e w' => e = .returned (.int .i64 (if n ≤ l then ((l - n : Nat) : Int) else -1)) ∧ w' = w := by
  unfold maxLen at hn
  by_cases h : n ≤ l
  · rw [if_pos h]
    have d0 : decide ((l : Int) - (n : Int) < 0) = false := by simp; omega
    go_enter Tryz.func114, Tryz.ntmps114
    go_wp2
    go_ret
    have e : ((l - n : Nat) : Int) = (l : Int) - (n : Int) := by omega
    exact ⟨by rw [e]; rfl, rfl⟩
  · rw [if_neg h]
    have d0 : decide ((l : Int) - (n : Int) < 0) = true := by simp; omega
    go_enter Tryz.func114, Tryz.ntmps114
    go_wp2
    go_ret
    exact ⟨rfl, rfl⟩
theorem szPlace_any (w : World) (a : Option Addr) (n cap : Nat) (l : Nat) (hn : n ≤ maxLen) (hl : l ≤ 1048576) : Calls Tryz.prog 72 #[.agg #[.slice a n cap], .int .i64 (l : Int)] w fun e w' => e = .returned (.int .i64 (if n ≤ l then ((l - n : Nat) : Int) else -1)) ∧ Below w.heap.size w w' := by
  by_cases h : n ≤ l
  · rw [if_pos h]
    go_enter Tryz.func72, Tryz.ntmps72
    go_wp2_with fail
    have hz := szInt64S_any (w.alloc (.cells #[.slice a n cap] 114)) a n cap l hn hl
    rw [if_pos h] at hz
    refine hz.mono ?_
    rintro e w1 ⟨rfl, rfl⟩
    have d0 : decide (((l - n : Nat) : Int) < 0) = false := by simp
    go_wp2
    go_ret
    exact ⟨rfl, (Below.refl _ _).alloc (Nat.le_refl _) _⟩
  · rw [if_neg h]
    go_enter Tryz.func72, Tryz.ntmps72
    go_wp2_with fail
    have hz := szInt64S_any (w.alloc (.cells #[.slice a n cap] 114)) a n cap l hn hl
    rw [if_neg h] at hz
    refine hz.mono ?_
    rintro e w1 ⟨rfl, rfl⟩
    go_wp2
    go_ret
    exact ⟨rfl, (Below.refl _ _).alloc (Nat.le_refl _) _⟩
/-- What is left of the laws' bound, or -1. -/
def szR (n : Nat) (zss : List (List Int)) : Int := if n + lens zss ≤ 1048576 then ((1048576 - (n + lens zss) : Nat) : Int) else -1
set_option maxHeartbeats 2000000 in
theorem szPlaceS_any (w : World) (a : Option Addr) (n cap : Nat) (zss : List (List Int)) (hn : n ≤ maxLen) (hs : SlP w w.heap.size a n zss) (hl : ∀ zs ∈ zss, zs.length ≤ maxLen) :
    Calls Tryz.prog 28 #[.slice a n cap, .int .i64 1048576] w fun e w' => e = .returned (.int .i64 (szR n zss)) ∧ Below w.heap.size w w' := by
  obtain ⟨hx, hs⟩ := hs
  have hn' := hn
  unfold maxLen at hn'
  by_cases h0 : n ≤ 1048576
  · have d0 : decide ((1048576 : Int) - (n : Int) < 0) = false := by simp; omega
    go_enter Tryz.func28, Tryz.ntmps28
    go_wp2
    go_loopw [1, 5] (fun v1 v5 wr => ∃ j : Nat, j ≤ n ∧ v5 = .int .i64 j ∧ n + lens (zss.take j) ≤ 1048576 ∧ v1 = .int .i64 ((1048576 - (n + lens (zss.take j)) : Nat) : Int) ∧ Below w.heap.size w wr) (fun _ v5 _ => n - (intOf v5).toNat)
    case atStart => exact ⟨0, Nat.zero_le _, rfl, by simpa [lens] using h0, by simp [lens]; omega, Below.refl _ _⟩
    case round =>
      obtain ⟨j, hj, rfl, hle, rfl, hbl⟩ := hrel
      have KL : Hid (n + lens (zss.take j) ≤ 1048576 ∧ zss.length = n ∧ (∀ zs ∈ zss, zs.length ≤ maxLen)) := ⟨hle, hx, hl⟩
      by_cases hlt : j < n
      · rcases hs with hs | ⟨b, off, rfl, hb, h1⟩
        · omega
        · obtain ⟨a', cap', hc, _, _⟩ := h1 j _ (atP_of (by omega))
          have c := (hbl.cell (p := ⟨b, off + j, none⟩) hb).trans hc
          have hz := szPlace_any wr a' (atP zss j).length cap' (1048576 - (n + lens (zss.take j))) (hl _ (List.mem_of_getElem? (atP_of (by omega)))) (by omega)
          have HST : Hid (lens (zss.take (j + 1)) = lens (zss.take j) + (atP zss j).length) := lens_take_succ (by omega)
          have HLE : Hid (lens (zss.take (j + 1)) ≤ lens zss) := lens_take_le _ _
          have KB : Hid (Below w.heap.size w wr) := hbl
          generalize hLL : lens (zss.take j) = LL at *
          generalize (atP zss j).length = m at *
          clear h1 hc hbl hl hx hle
          by_cases hfit : m ≤ 1048576 - (n + LL)
          · rw [if_pos hfit] at hz
            have d1 : decide (((1048576 - (n + LL) - m : Nat) : Int) < 0) = false := by simp
            go_wp2_with fail
            refine hz.mono ?_
            clear hz
            rintro e w1 ⟨rfl, b1⟩
            go_wp2
            have h1 := KL.out.1
            refine ⟨⟨j + 1, by omega, by simp, by rw [HST.out]; omega, by rw [HST.out]; congr 2; omega, KB.out.trans (b1.mono KB.out.size)⟩, by simp [intOf]; omega⟩
          · rw [if_neg hfit] at hz
            go_wp2_with fail
            refine hz.mono ?_
            clear hz
            rintro e w1 ⟨rfl, b1⟩
            go_wp2
            go_ret
            have h2 := HST.out
            have h3 := HLE.out
            refine ⟨by rw [szR, if_neg (by omega)]; rfl, KB.out.trans (b1.mono KB.out.size)⟩
      · have : j = n := by omega
        subst this
        have hd : decide ((j : Int) < (j : Int)) = false := by simp
        have ht : zss.take j = zss := List.take_of_length_le (by omega)
        rw [ht] at hle ⊢
        clear hs hl KL ht
        go_wp2
        go_ret
        exact ⟨by rw [szR, if_pos hle]; rfl, hbl⟩
  · have d0 : decide ((1048576 : Int) - (n : Int) < 0) = true := by simp; omega
    go_enter Tryz.func28, Tryz.ntmps28
    go_wp2
    go_ret
    exact ⟨by rw [szR, if_neg (by omega)]; rfl, Below.refl _ _⟩
end Go.Proofs.YtalmflikdnflfaaGreat
/- A cluster counted. -/
namespace Go.Proofs.YtalmflikdnflfaaGreat
open Go.RowKit
/-- What the laws' count of a cluster takes. -/
def szC (k : C6) : Nat := (k.places.length + lens k.places) + (k.machines.length + KMS.szs k.machines) + (k.txs.length + KTS.szs k.txs)
structure KCl.L (k : C6) : Prop where
  p : k.places.length ≤ maxLen
  ps : ∀ zs ∈ k.places, zs.length ≤ maxLen
  m : k.machines.length ≤ maxLen
  ms : ∀ m ∈ k.machines, ML m
  t : k.txs.length ≤ maxLen
  ts : ∀ t ∈ k.txs, tx.TL t
theorem sum_has {α : Type} (f : α → Nat) {x : α} : ∀ {l : List α}, x ∈ l → f x ≤ (l.map f).sum
  | y :: l, h => by
    simp only [List.map_cons, List.sum_cons]
    rcases List.mem_cons.1 h with rfl | h
    · omega
    · have := sum_has f h; omega
theorem KCl.S.of {k : C6} (h : szC k ≤ 1048576) : KCl.S k := by
  unfold szC at h
  refine ⟨by omega, fun zs hz => ?_, by omega, fun m hm => MT.of_sz ?_, by omega, fun t ht => ?_⟩
  · have := lens_mem hz; omega
  · have := sum_has (fun m => szM m) hm; unfold KMS.szs at h; omega
  · have h1 := sum_has (fun t => tx.szT t) ht
    unfold KTS.szs at h
    have h2 : tx.szT t = t.reads.length + t.sets.length := rfl
    exact ⟨by omega, by omega⟩
set_option maxRecDepth 100000 in
set_option maxHeartbeats 4000000 in
theorem KCl.sz (X : World) (a1 : Option Addr) (c1 : Nat) (a2 : Option Addr) (c2 : Nat) (a3 : Option Addr) (c3 : Nat) (k : C6) (hl : KCl.L k) (h : KCl.Rd X a1 c1 a2 c2 a3 c3 k) : Calls Tryz.prog 7 #[.agg #[.int .i64 k.config, .int .i64 k.clock, .slice a1 k.places.length c1, .slice a2 k.machines.length c2, .slice a3 k.txs.length c3, .bool k.lost], .int .i64 1048576] X fun e w' => e = .returned (.int .i64 (leftR 1048576 (szC k))) ∧ Below X.heap.size X w' := by
  obtain ⟨U, hU⟩ : ∃ Y, Y = X.alloc (.cells #[.int .i64 k.config, .int .i64 k.clock, .slice a1 k.places.length c1, .slice a2 k.machines.length c2, .slice a3 k.txs.length c3, .bool k.lost] 26) := ⟨_, rfl⟩
  have b0 : Below X.heap.size X U := by rw [hU]; exact (Below.refl _ _).alloc (Nat.le_refl _) _
  have FA : Hid (Bx U X.heap.size [.int .i64 k.config, .int .i64 k.clock, .slice a1 k.places.length c1, .slice a2 k.machines.length c2, .slice a3 k.txs.length c3, .bool k.lost]) := by rw [hU]; exact Bx.made X [.int .i64 k.config, .int .i64 k.clock, .slice a1 k.places.length c1, .slice a2 k.machines.length c2, .slice a3 k.txs.length c3, .bool k.lost] _
  have HR : Hid (KCl.Rd U a1 c1 a2 c2 a3 c3 k ∧ KCl.L k ∧ Below X.heap.size X U) := ⟨h.later b0, hl, b0⟩
  have hz1 := szPlaceS_any U a1 k.places.length c1 k.places hl.p (h.later b0).p hl.ps
  have e1 : szR k.places.length k.places = leftR 1048576 (k.places.length + lens k.places) := by unfold szR leftR; rfl
  rw [e1] at hz1
  have HS : Hid (szC k = (k.places.length + lens k.places) + (k.machines.length + KMS.szs k.machines) + (k.txs.length + KTS.szs k.txs)) := rfl
  have HM : Hid (∀ (w : World) (l : Nat), Below U.heap.size U w → l ≤ 1048576 → Calls Tryz.prog 29 #[.slice a2 k.machines.length c2, .int .i64 (l : Int)] w fun e w' => e = .returned (.int .i64 (leftR l (k.machines.length + KMS.szs k.machines))) ∧ Below w.heap.size w w') := fun w l hb hl0 => KMS.sz w a2 c2 k.machines l hl0 hl.m hl.ms ((h.later b0).later hb).m
  have HT : Hid (∀ (w : World) (l : Nat), Below U.heap.size U w → l ≤ 1048576 → Calls Tryz.prog 30 #[.slice a3 k.txs.length c3, .int .i64 (l : Int)] w fun e w' => e = .returned (.int .i64 (leftR l (k.txs.length + KTS.szs k.txs))) ∧ Below w.heap.size w w') := fun w l hb hl0 => KTS.sz w a3 c3 k.txs l hl0 hl.t hl.ts ((h.later b0).later hb).t
  rw [HS.out]
  generalize k.places.length + lens k.places = n1 at *
  generalize k.machines.length + KMS.szs k.machines = n2 at *
  generalize k.txs.length + KTS.szs k.txs = n3 at *
  have p2 := FA.out.1 2 _ rfl
  rw [hU] at p2
  clear b0 hl h e1 HS
  go_enter Tryz.func7, Tryz.ntmps7
  go_wp2_with fail
  rw [← hU]
  clear hU p2
  refine hz1.mono ?_
  clear hz1
  rintro e w1 ⟨rfl, b1⟩
  have B1 := tx.hidOf b1
  clear b1
  by_cases g1 : n1 ≤ 1048576
  · rw [leftR_yes g1]
    have d1 : decide (((1048576 - n1 : Nat) : Int) < 0) = false := by simp
    have p3 := (FA.out.later B1.out).1 3 _ rfl
    have hz := HM.out w1 (1048576 - n1) B1.out (by omega)
    go_wp2_with fail
    refine hz.mono ?_
    clear hz p3
    rintro e w2 ⟨rfl, b2⟩
    have B2 : Hid (Below U.heap.size U w2) := bstep B1.out b2
    clear b2
    by_cases g2 : n2 ≤ 1048576 - n1
    · rw [leftR_yes g2]
      have d2 : decide (((1048576 - n1 - n2 : Nat) : Int) < 0) = false := by simp
      have p4 := (FA.out.later B2.out).1 4 _ rfl
      have hz := HT.out w2 (1048576 - n1 - n2) B2.out (by omega)
      go_wp2_with fail
      refine hz.mono ?_
      clear hz p4
      rintro e w3 ⟨rfl, b3⟩
      have B3 : Hid (Below U.heap.size U w3) := bstep B2.out b3
      clear b3
      by_cases g3 : n3 ≤ 1048576 - n1 - n2
      · rw [leftR_yes g3]
        have d3 : decide (((1048576 - n1 - n2 - n3 : Nat) : Int) < 0) = false := by simp
        go_wp2
        go_ret
        exact ⟨by rw [leftR_yes (by omega), show 1048576 - (n1 + n2 + n3) = 1048576 - n1 - n2 - n3 by omega]; rfl, bstep HR.out.2.2 B3.out⟩
      · rw [leftR_no g3]
        go_wp2
        go_ret
        exact ⟨by rw [leftR_no (by omega)]; rfl, bstep HR.out.2.2 B3.out⟩
    · rw [leftR_no g2]
      go_wp2
      go_ret
      exact ⟨by rw [leftR_no (by omega)]; rfl, bstep HR.out.2.2 B2.out⟩
  · rw [leftR_no g1]
    go_wp2
    go_ret
    exact ⟨by rw [leftR_no (by omega)]; rfl, bstep HR.out.2.2 B1.out⟩
end Go.Proofs.YtalmflikdnflfaaGreat
