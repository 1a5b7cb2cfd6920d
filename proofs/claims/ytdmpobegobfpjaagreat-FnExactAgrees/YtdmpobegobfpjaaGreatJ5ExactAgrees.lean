/- KdCl; PlsL; KdClS; MacOk1; Plain; HdU; CellOk; Oks; Oks2; MacOk2; Oks3: joined. -/
import Derived.Test.YtdmpobegobfpjaaGreatRows
import Derived.Test.YtdmpobegobfpjaaGreatJ3ExactAgrees
import Derived.Test.YtdmpobegobfpjaaGreatJ4ExactAgrees
import Derived.WalkKit
import Derived.WalkSpells
import Derived.WalkLawsBesides
import Derived.Below
import Derived.Test.YtdmpobegobfpjaaGreatJ0ExactAgrees
import Derived.BigQuiet
import Derived.Deep.QuietTactic
import Derived.Lib.QuietBelow
import Derived.Test.YtdmpobegobfpjaaGreatJ1ExactAgrees
namespace Go.Proofs.YtdmpobegobfpjaaGreat
open Go.RowKit
structure C6 where
  config : Int
  clock : Int
  places : List (List Int)
  machines : List M4
  txs : List tx.T7
  lost : Bool
def KP.Ow (w : World) (B : Nat) (a : Option Addr) (zss : List (List Int)) (P : Nat → Prop) : Prop := (∃ g, OwnQ w B a zss.length zss g ∧ (∀ b, a = some ⟨b, 0, none⟩ → P b) ∧ (∀ i, i < zss.length → P (g i))) ∧ (∀ q, P q → B ≤ q ∧ q < w.heap.size)
theorem KP.Ow.of {w : World} {B : Nat} {a : Option Addr} {zss : List (List Int)} {P : Nat → Prop} (h : KP.Ow w B a zss P) {q : Nat} (hq : P q) : B ≤ q ∧ q < w.heap.size := h.2 q hq
theorem KP.Ow.sl {w : World} {B : Nat} {a : Option Addr} {zss : List (List Int)} {P : Nat → Prop} (h : KP.Ow w B a zss P) : SlP w w.heap.size a zss.length zss := by obtain ⟨⟨g, h, _⟩, _⟩ := h; exact h.sl
theorem KP.Ow.keep {w w' : World} {B : Nat} {a : Option Addr} {zss : List (List Int)} {P : Nat → Prop} (h : KP.Ow w B a zss P) (hs : w.heap.size ≤ w'.heap.size) (hk : ∀ q, P q → w'.heap[q]? = w.heap[q]?) : KP.Ow w' B a zss P := by
  obtain ⟨⟨g, h1, h2, h3⟩, h4⟩ := h
  exact ⟨⟨g, h1.kept hs (fun b e => hk b (h2 b e)) (fun i hi => hk _ (h3 i hi)), h2, h3⟩, fun q hq => ⟨(h4 q hq).1, Nat.lt_of_lt_of_le (h4 q hq).2 hs⟩⟩
theorem KP.Ow.later {w w' : World} {B : Nat} {a : Option Addr} {zss : List (List Int)} {P : Nat → Prop} (h : KP.Ow w B a zss P) (hb : Below w.heap.size w w') : KP.Ow w' B a zss P := h.keep hb.size (fun q hq => hb.block q (h.of hq).2)
theorem KP.to (w : World) (a : Option Addr) (cap : Nat) (zss : List (List Int)) (hn : zss.length ≤ 1048576) (hl : ∀ zs ∈ zss, zs.length ≤ 1048576) (hs : SlP w w.heap.size a zss.length zss) : Calls Tryz.prog 30 #[.slice a zss.length cap] w fun e w' =>
    ∃ P, e = .returned (.slice (some ⟨w.heap.size, 0, none⟩) zss.length zss.length) ∧ KP.Ow w' w.heap.size (some ⟨w.heap.size, 0, none⟩) zss P ∧ Below w.heap.size w w' := by
  refine (toPlaceS_any w a zss.length cap zss hn hl hs).mono ?_
  rintro e w' ⟨g, rfl, b, hlt, ho⟩
  have hq : OwnQ w' w.heap.size (some ⟨w.heap.size, 0, none⟩) zss.length zss g := .inr ⟨w.heap.size, rfl, Nat.le_refl _, hlt, ho⟩
  refine ⟨fun q => q = w.heap.size ∨ ∃ i, i < zss.length ∧ g i = q, rfl, ⟨⟨g, hq, fun b e => .inl (by cases e; rfl), fun i hi => .inr ⟨i, hi, rfl⟩⟩, fun q h => ?_⟩, b⟩
  rcases h with rfl | ⟨i, hi, rfl⟩
  · exact ⟨Nat.le_refl _, hlt⟩
  · exact ⟨hq.low i hi, hq.lt i hi⟩
structure KCl.Rd (X : World) (a1 : Option Addr) (_ : Nat) (a2 : Option Addr) (_ : Nat) (a3 : Option Addr) (_ : Nat) (k : C6) : Prop where
  p : SlP X X.heap.size a1 k.places.length k.places
  m : KMk.RdS X a2 k.machines
  t : KTk.RdS X a3 k.txs
  cp : KTkC.RdS X a3 k.txs
theorem KCl.Rd.later {X Y : World} {a1 : Option Addr} {c1 : Nat} {a2 : Option Addr} {c2 : Nat} {a3 : Option Addr} {c3 : Nat} {k : C6} (h : KCl.Rd X a1 c1 a2 c2 a3 c3 k) (b : Below X.heap.size X Y) : KCl.Rd Y a1 c1 a2 c2 a3 c3 k := ⟨h.p.later b, h.m.later b, h.t.later b, h.cp.later b⟩
def KCl.Ow (w : World) (B : Nat) (a1 : Option Addr) (_ : Nat) (a2 : Option Addr) (_ : Nat) (a3 : Option Addr) (_ : Nat) (k : C6) (P : Nat → Prop) : Prop := (∃ P1 P2 P3, KP.Ow w B a1 k.places P1 ∧ KMk.OwS w B a2 k.machines P2 ∧ KTk.OwS w B a3 k.txs P3 ∧ (∀ q, P1 q → P q) ∧ (∀ q, P2 q → P q) ∧ (∀ q, P3 q → P q) ∧ (∀ q, P1 q → ¬ P2 q) ∧ (∀ q, P1 q → ¬ P3 q) ∧ (∀ q, P2 q → ¬ P3 q)) ∧ (∀ q, P q → B ≤ q ∧ q < w.heap.size)
theorem KCl.Ow.of {w : World} {B : Nat} {a1 : Option Addr} {c1 : Nat} {a2 : Option Addr} {c2 : Nat} {a3 : Option Addr} {c3 : Nat} {k : C6} {P : Nat → Prop} (h : KCl.Ow w B a1 c1 a2 c2 a3 c3 k P) {q : Nat} (hq : P q) : B ≤ q ∧ q < w.heap.size := h.2 q hq
theorem KCl.Ow.sl {w : World} {B : Nat} {a1 : Option Addr} {c1 : Nat} {a2 : Option Addr} {c2 : Nat} {a3 : Option Addr} {c3 : Nat} {k : C6} {P : Nat → Prop} (h : KCl.Ow w B a1 c1 a2 c2 a3 c3 k P) : KCl.Rd w a1 c1 a2 c2 a3 c3 k := by obtain ⟨⟨_, _, _, h1, h2, h3, _⟩, _⟩ := h; exact ⟨h1.sl, h2.sl, h3.sl, capO h3⟩
theorem KCl.Ow.keep {w : World} {B : Nat} {a1 : Option Addr} {c1 : Nat} {a2 : Option Addr} {c2 : Nat} {a3 : Option Addr} {c3 : Nat} {k : C6} {P : Nat → Prop} {w' : World} (h : KCl.Ow w B a1 c1 a2 c2 a3 c3 k P) (hs : w.heap.size ≤ w'.heap.size) (hk : ∀ q, P q → w'.heap[q]? = w.heap[q]?) : KCl.Ow w' B a1 c1 a2 c2 a3 c3 k P := by
  obtain ⟨⟨P1, P2, P3, h1, h2, h3, p1, p2, p3, h4⟩, h5⟩ := h
  exact ⟨⟨P1, P2, P3, h1.keep hs (fun q hq => hk q (p1 q hq)), h2.keep hs (fun q hq => hk q (p2 q hq)), h3.keep hs (fun q hq => hk q (p3 q hq)), p1, p2, p3, h4⟩, fun q hq => ⟨(h5 q hq).1, Nat.lt_of_lt_of_le (h5 q hq).2 hs⟩⟩
theorem KCl.Ow.later {w : World} {B : Nat} {a1 : Option Addr} {c1 : Nat} {a2 : Option Addr} {c2 : Nat} {a3 : Option Addr} {c3 : Nat} {k : C6} {P : Nat → Prop} {w' : World} (h : KCl.Ow w B a1 c1 a2 c2 a3 c3 k P) (hb : Below w.heap.size w w') : KCl.Ow w' B a1 c1 a2 c2 a3 c3 k P := h.keep hb.size (fun q hq => hb.block q (h.of hq).2)
structure KCl.S (k : C6) : Prop where
  p : k.places.length ≤ 1048576
  ps : ∀ zs ∈ k.places, zs.length ≤ 1048576
  m : k.machines.length ≤ 1048576
  ms : ∀ m ∈ k.machines, MT m
  t : k.txs.length ≤ 1048576
  ts : ∀ t ∈ k.txs, KT.S t
end Go.Proofs.YtdmpobegobfpjaaGreat
namespace Go.Proofs.YtdmpobegobfpjaaGreat
open Go.RowKit
open Go.Sort (grow)
theorem szInt64S_any (w : World) (a : Option Addr) (n cap : Nat) (l : Nat) (hn : n ≤ maxLen) (hl : l ≤ 1048576) : Calls Tryz.prog 91 #[.slice a n cap, .int .i64 (l : Int)] w fun e w' => e = .returned (.int .i64 (if n ≤ l then ((l - n : Nat) : Int) else -1)) ∧ w' = w := by
  unfold maxLen at hn
  by_cases h : n ≤ l
  · rw [if_pos h]
    have d0 : decide ((l : Int) - (n : Int) < 0) = false := by simp; omega
    go_enter Tryz.func91, Tryz.ntmps91
    go_wp2
    go_ret
    have e : ((l - n : Nat) : Int) = (l : Int) - (n : Int) := by omega
    exact ⟨by rw [e]; rfl, rfl⟩
  · rw [if_neg h]
    have d0 : decide ((l : Int) - (n : Int) < 0) = true := by simp; omega
    go_enter Tryz.func91, Tryz.ntmps91
    go_wp2
    go_ret
    exact ⟨rfl, rfl⟩
theorem szPlace_any (w : World) (a : Option Addr) (n cap : Nat) (l : Nat) (hn : n ≤ maxLen) (hl : l ≤ 1048576) : Calls Tryz.prog 50 #[.agg #[.slice a n cap], .int .i64 (l : Int)] w fun e w' => e = .returned (.int .i64 (if n ≤ l then ((l - n : Nat) : Int) else -1)) ∧ Below w.heap.size w w' := by
  by_cases h : n ≤ l
  · rw [if_pos h]
    go_enter Tryz.func50, Tryz.ntmps50
    go_wp2_with fail
    have hz := szInt64S_any (w.alloc (.cells #[.slice a n cap] 87)) a n cap l hn hl
    rw [if_pos h] at hz
    refine hz.mono ?_
    rintro e w1 ⟨rfl, rfl⟩
    have d0 : decide (((l - n : Nat) : Int) < 0) = false := by simp
    go_wp2
    go_ret
    exact ⟨rfl, (Below.refl _ _).alloc (Nat.le_refl _) _⟩
  · rw [if_neg h]
    go_enter Tryz.func50, Tryz.ntmps50
    go_wp2_with fail
    have hz := szInt64S_any (w.alloc (.cells #[.slice a n cap] 87)) a n cap l hn hl
    rw [if_neg h] at hz
    refine hz.mono ?_
    rintro e w1 ⟨rfl, rfl⟩
    go_wp2
    go_ret
    exact ⟨rfl, (Below.refl _ _).alloc (Nat.le_refl _) _⟩
def szR (n : Nat) (zss : List (List Int)) : Int := if n + lens zss ≤ 1048576 then ((1048576 - (n + lens zss) : Nat) : Int) else -1
set_option maxHeartbeats 2000000 in
theorem szPlaceS_any (w : World) (a : Option Addr) (n cap : Nat) (zss : List (List Int)) (hn : n ≤ maxLen) (hs : SlP w w.heap.size a n zss) (hl : ∀ zs ∈ zss, zs.length ≤ maxLen) :
    Calls Tryz.prog 25 #[.slice a n cap, .int .i64 1048576] w fun e w' => e = .returned (.int .i64 (szR n zss)) ∧ Below w.heap.size w w' := by
  obtain ⟨hx, hs⟩ := hs
  have hn' := hn
  unfold maxLen at hn'
  by_cases h0 : n ≤ 1048576
  · have d0 : decide ((1048576 : Int) - (n : Int) < 0) = false := by simp; omega
    go_enter Tryz.func25, Tryz.ntmps25
    go_wp2
    go_loopw [1, 5] (fun v1 v5 wr => ∃ j : Nat, j ≤ n ∧ v5 = .int .i64 j ∧ n + lens (zss.take j) ≤ 1048576 ∧ v1 = .int .i64 ((1048576 - (n + lens (zss.take j)) : Nat) : Int) ∧ Below w.heap.size w wr) (fun _ v5 _ => n - (intOf v5).toNat)
    case atStart => exact ⟨0, Nat.zero_le _, rfl, by simpa [lens] using h0, by simp [lens]; omega, Below.refl _ _⟩
    case round =>
      obtain ⟨j, hj, rfl, hle, rfl, hbl⟩ := hrel
      have KL : Hid (n + lens (zss.take j) ≤ 1048576 ∧ zss.length = n ∧ (∀ zs ∈ zss, zs.length ≤ maxLen)) := ⟨hle, hx, hl⟩
      by_cases hlt : j < n
      · rcases hs with hs | ⟨b, off, rfl, hb, h1⟩
        · omega
        · obtain ⟨a', cap', hc, _, _⟩ := h1 j _ (atP_of (by omega))
          have c := (hbl.cell (p := ⟨b, off + j, none⟩) hb).trans hc
          have hz := szPlace_any wr a' (atP zss j).length cap' (1048576 - (n + lens (zss.take j))) (hl _ (List.mem_of_getElem? (atP_of (by omega)))) (by omega)
          have HST : Hid (lens (zss.take (j + 1)) = lens (zss.take j) + (atP zss j).length) := lens_take_succ (by omega)
          have HLE : Hid (lens (zss.take (j + 1)) ≤ lens zss) := lens_take_le _ _
          have KB : Hid (Below w.heap.size w wr) := hbl
          generalize hLL : lens (zss.take j) = LL at *
          generalize (atP zss j).length = m at *
          clear h1 hc hbl hl hx hle
          by_cases hfit : m ≤ 1048576 - (n + LL)
          · rw [if_pos hfit] at hz
            have d1 : decide (((1048576 - (n + LL) - m : Nat) : Int) < 0) = false := by simp
            go_wp2_with fail
            refine hz.mono ?_
            clear hz
            rintro e w1 ⟨rfl, b1⟩
            go_wp2
            have h1 := KL.out.1
            refine ⟨⟨j + 1, by omega, by simp, by rw [HST.out]; omega, by rw [HST.out]; congr 2; omega, KB.out.trans (b1.mono KB.out.size)⟩, by simp [intOf]; omega⟩
          · rw [if_neg hfit] at hz
            go_wp2_with fail
            refine hz.mono ?_
            clear hz
            rintro e w1 ⟨rfl, b1⟩
            go_wp2
            go_ret
            have h2 := HST.out
            have h3 := HLE.out
            refine ⟨by rw [szR, if_neg (by omega)]; rfl, KB.out.trans (b1.mono KB.out.size)⟩
      · have : j = n := by omega
        subst this
        have hd : decide ((j : Int) < (j : Int)) = false := by simp
        have ht : zss.take j = zss := List.take_of_length_le (by omega)
        rw [ht] at hle ⊢
        clear hs hl KL ht
        go_wp2
        go_ret
        exact ⟨by rw [szR, if_pos hle]; rfl, hbl⟩
  · have d0 : decide ((1048576 : Int) - (n : Int) < 0) = true := by simp; omega
    go_enter Tryz.func25, Tryz.ntmps25
    go_wp2
    go_ret
    exact ⟨by rw [szR, if_neg (by omega)]; rfl, Below.refl _ _⟩
end Go.Proofs.YtdmpobegobfpjaaGreat
namespace Go.Proofs.YtdmpobegobfpjaaGreat
open Go.RowKit
def szC (k : C6) : Nat := (k.places.length + lens k.places) + (k.machines.length + KMS.szs k.machines) + (k.txs.length + KTS.szs k.txs)
structure KCl.L (k : C6) : Prop where
  p : k.places.length ≤ maxLen
  ps : ∀ zs ∈ k.places, zs.length ≤ maxLen
  m : k.machines.length ≤ maxLen
  ms : ∀ m ∈ k.machines, ML m
  t : k.txs.length ≤ maxLen
  ts : ∀ t ∈ k.txs, tx.TL t
theorem sum_has {α : Type} (f : α → Nat) {x : α} : ∀ {l : List α}, x ∈ l → f x ≤ (l.map f).sum
  | y :: l, h => by
    simp only [List.map_cons, List.sum_cons]
    rcases List.mem_cons.1 h with rfl | h
    · omega
    · have := sum_has f h; omega
theorem KCl.S.of {k : C6} (h : szC k ≤ 1048576) : KCl.S k := by
  unfold szC at h
  refine ⟨by omega, fun zs hz => ?_, by omega, fun m hm => MT.of_sz ?_, by omega, fun t ht => ?_⟩
  · have := lens_mem hz; omega
  · have := sum_has (fun m => szM m) hm; unfold KMS.szs at h; omega
  · have h1 := sum_has (fun t => tx.szT t) ht
    unfold KTS.szs at h
    have h2 : tx.szT t = t.reads.length + t.sets.length := rfl
    exact ⟨by omega, by omega⟩
set_option maxRecDepth 100000 in
set_option maxHeartbeats 4000000 in
theorem KCl.sz (X : World) (a1 : Option Addr) (c1 : Nat) (a2 : Option Addr) (c2 : Nat) (a3 : Option Addr) (c3 : Nat) (k : C6) (hl : KCl.L k) (h : KCl.Rd X a1 c1 a2 c2 a3 c3 k) : Calls Tryz.prog 7 #[.agg #[.int .i64 k.config, .int .i64 k.clock, .slice a1 k.places.length c1, .slice a2 k.machines.length c2, .slice a3 k.txs.length c3, .bool k.lost], .int .i64 1048576] X fun e w' => e = .returned (.int .i64 (leftR 1048576 (szC k))) ∧ Below X.heap.size X w' := by
  obtain ⟨U, hU⟩ : ∃ Y, Y = X.alloc (.cells #[.int .i64 k.config, .int .i64 k.clock, .slice a1 k.places.length c1, .slice a2 k.machines.length c2, .slice a3 k.txs.length c3, .bool k.lost] 26) := ⟨_, rfl⟩
  have b0 : Below X.heap.size X U := by rw [hU]; exact (Below.refl _ _).alloc (Nat.le_refl _) _
  have FA : Hid (Bx U X.heap.size [.int .i64 k.config, .int .i64 k.clock, .slice a1 k.places.length c1, .slice a2 k.machines.length c2, .slice a3 k.txs.length c3, .bool k.lost]) := by rw [hU]; exact Bx.made X [.int .i64 k.config, .int .i64 k.clock, .slice a1 k.places.length c1, .slice a2 k.machines.length c2, .slice a3 k.txs.length c3, .bool k.lost] _
  have HR : Hid (KCl.Rd U a1 c1 a2 c2 a3 c3 k ∧ KCl.L k ∧ Below X.heap.size X U) := ⟨h.later b0, hl, b0⟩
  have hz1 := szPlaceS_any U a1 k.places.length c1 k.places hl.p (h.later b0).p hl.ps
  have e1 : szR k.places.length k.places = leftR 1048576 (k.places.length + lens k.places) := by unfold szR leftR; rfl
  rw [e1] at hz1
  have HS : Hid (szC k = (k.places.length + lens k.places) + (k.machines.length + KMS.szs k.machines) + (k.txs.length + KTS.szs k.txs)) := rfl
  have HM : Hid (∀ (w : World) (l : Nat), Below U.heap.size U w → l ≤ 1048576 → Calls Tryz.prog 26 #[.slice a2 k.machines.length c2, .int .i64 (l : Int)] w fun e w' => e = .returned (.int .i64 (leftR l (k.machines.length + KMS.szs k.machines))) ∧ Below w.heap.size w w') := fun w l hb hl0 => KMS.sz w a2 c2 k.machines l hl0 hl.m hl.ms ((h.later b0).later hb).m
  have HT : Hid (∀ (w : World) (l : Nat), Below U.heap.size U w → l ≤ 1048576 → Calls Tryz.prog 27 #[.slice a3 k.txs.length c3, .int .i64 (l : Int)] w fun e w' => e = .returned (.int .i64 (leftR l (k.txs.length + KTS.szs k.txs))) ∧ Below w.heap.size w w') := fun w l hb hl0 => KTS.sz w a3 c3 k.txs l hl0 hl.t hl.ts ((h.later b0).later hb).t
  rw [HS.out]
  generalize k.places.length + lens k.places = n1 at *
  generalize k.machines.length + KMS.szs k.machines = n2 at *
  generalize k.txs.length + KTS.szs k.txs = n3 at *
  have p2 := FA.out.1 2 _ rfl
  rw [hU] at p2
  clear b0 hl h e1 HS
  go_enter Tryz.func7, Tryz.ntmps7
  go_wp2_with fail
  rw [← hU]
  clear hU p2
  refine hz1.mono ?_
  clear hz1
  rintro e w1 ⟨rfl, b1⟩
  have B1 := tx.hidOf b1
  clear b1
  by_cases g1 : n1 ≤ 1048576
  · rw [leftR_yes g1]
    have d1 : decide (((1048576 - n1 : Nat) : Int) < 0) = false := by simp
    have p3 := (FA.out.later B1.out).1 3 _ rfl
    have hz := HM.out w1 (1048576 - n1) B1.out (by omega)
    go_wp2_with fail
    refine hz.mono ?_
    clear hz p3
    rintro e w2 ⟨rfl, b2⟩
    have B2 : Hid (Below U.heap.size U w2) := bstep B1.out b2
    clear b2
    by_cases g2 : n2 ≤ 1048576 - n1
    · rw [leftR_yes g2]
      have d2 : decide (((1048576 - n1 - n2 : Nat) : Int) < 0) = false := by simp
      have p4 := (FA.out.later B2.out).1 4 _ rfl
      have hz := HT.out w2 (1048576 - n1 - n2) B2.out (by omega)
      go_wp2_with fail
      refine hz.mono ?_
      clear hz p4
      rintro e w3 ⟨rfl, b3⟩
      have B3 : Hid (Below U.heap.size U w3) := bstep B2.out b3
      clear b3
      by_cases g3 : n3 ≤ 1048576 - n1 - n2
      · rw [leftR_yes g3]
        have d3 : decide (((1048576 - n1 - n2 - n3 : Nat) : Int) < 0) = false := by simp
        go_wp2
        go_ret
        exact ⟨by rw [leftR_yes (by omega), show 1048576 - (n1 + n2 + n3) = 1048576 - n1 - n2 - n3 by omega]; rfl, bstep HR.out.2.2 B3.out⟩
      · rw [leftR_no g3]
        go_wp2
        go_ret
        exact ⟨by rw [leftR_no (by omega)]; rfl, bstep HR.out.2.2 B3.out⟩
    · rw [leftR_no g2]
      go_wp2
      go_ret
      exact ⟨by rw [leftR_no (by omega)]; rfl, bstep HR.out.2.2 B2.out⟩
  · rw [leftR_no g1]
    go_wp2
    go_ret
    exact ⟨by rw [leftR_no (by omega)]; rfl, bstep HR.out.2.2 B1.out⟩
end Go.Proofs.YtdmpobegobfpjaaGreat
namespace Go.Proofs.YtdmpobegobfpjaaGreat
open Go.RowKit
open Go.Sort (grow)
theorem specId_q (w : World) (x : Int) : Calls Tryz.prog 53 #[.int .i64 x] w fun e w' => e = .returned (.bool (inB 1 1000000 x)) ∧ Below w.heap.size w w' := by
  go_enter Tryz.func53, Tryz.ntmps53
  go_wp2_with (go_at_call 43; refine (specIn _ _ _ _).mono ?_; rintro e w' ⟨rfl, rfl⟩)
  go_ret
  exact ⟨rfl, Below.refl _ _⟩
def idAt (zs : List Int) (i : Nat) : Bool := inB 1 1000000 (atN zs i) && (decide (i = 0) || decide (atN zs (i - 1) < atN zs i))
def idsB (zs : List Int) : Bool := (List.range zs.length).all (idAt zs)
theorem ids_step {f : Nat → Bool} {k : Nat} (h : (List.range k).all f = true) (h' : f k = true) : (List.range (k + 1)).all f = true := by
  rw [List.range_succ, List.all_append, h]; simp [h']
theorem ids_fail {f : Nat → Bool} {k n : Nat} (hk : k < n) (h : f k = false) : (List.range n).all f = false := by
  rw [List.all_eq_false]; exact ⟨k, List.mem_range.2 hk, by simp [h]⟩
theorem id_bad {zs : List Int} {k : Nat} (h : inB 1 1000000 (atN zs k) = false) : idAt zs k = false := by simp [idAt, h]
theorem id_low {zs : List Int} {j : Nat} (h : atN zs (j + 1) ≤ atN zs j) : idAt zs (j + 1) = false := by simp [idAt]; intro _; omega
theorem id_first {zs : List Int} (h : inB 1 1000000 (atN zs 0) = true) : idAt zs 0 = true := by simp [idAt, h]
theorem id_good {zs : List Int} {j : Nat} (h : inB 1 1000000 (atN zs (j + 1)) = true) (h' : ¬ atN zs (j + 1) ≤ atN zs j) : idAt zs (j + 1) = true := by simp [idAt, h]; omega
set_option maxHeartbeats 4000000 in
theorem l6Rises_any (w : World) (a : Option Addr) (n cap : Nat) (zs : List Int) (hn : n ≤ maxLen) (hs : SlN w w.heap.size a n zs) :
    Calls Tryz.prog 98 #[.slice a n cap] w fun e w' => e = .returned (.bool (idsB zs)) ∧ Below w.heap.size w w' := by
  unfold maxLen at hn
  obtain ⟨hx, hs⟩ := hs
  go_enter Tryz.func98, Tryz.ntmps98
  go_wp2
  go_loopw [3] (fun i wr => ∃ k : Nat, k ≤ n ∧ i = .int .i64 k ∧ Below w.heap.size w wr ∧ (List.range k).all (idAt zs) = true) (fun i _ => n - (intOf i).toNat)
  case atStart => exact ⟨0, Nat.zero_le _, rfl, Below.refl _ _, rfl⟩
  case round =>
    obtain ⟨k, hk, rfl, hbl, hall⟩ := hrel
    have K : Hid (Below w.heap.size w wr ∧ (List.range k).all (idAt zs) = true ∧ zs.length = n) := ⟨hbl, hall, hx⟩
    by_cases hlt : k < n
    · rcases hs with hs | ⟨b, off, rfl, hb, h1⟩
      · omega
      have hbW : b < wr.heap.size := Nat.lt_of_lt_of_le hb hbl.size
      have t1 := (h1.below hbl hb) k _ (atN_of (by omega))
      have c0 : ∀ d os, (grow (redrawn wr d) os).cell? ⟨b, off + k, none⟩ = some (.int .i64 (atN zs k)) := fun d os => ((below_regrown wr d os).cell (p := ⟨b, off + k, none⟩) hbW).trans t1
      have cQ : ∀ d os, Calls Tryz.prog 53 #[.int .i64 (atN zs k)] (grow (redrawn wr d) os) fun e w'' => e = .returned (.bool (inB 1 1000000 (atN zs k))) ∧ ∃ p : Regrown, w'' = grow (redrawn wr p.d) p.os := fun d os => Calls.regrown_of (specId_q _ (atN zs k))
      cases hok : inB 1 1000000 (atN zs k) with
      | false =>
        rw [hok] at cQ
        clear t1 hbl hall h1 hx
        go_wp2_with fail
        refine wp_region_quiet_below (by kernel_rfl) (by kernel_rfl) ?_
        repeat (go_big_quiet_step (exact cQ _ _))
        refine wpQuiet_nil ?_
        intro _ hw'
        obtain ⟨⟨dq, osq⟩, hw''⟩ := hw'
        subst hw''
        have bq := below_regrown wr dq osq
        go_wp2
        go_ret
        exact ⟨by rw [idsB, K.out.2.2, ids_fail hlt (id_bad hok)]; rfl, K.out.1.trans (bq.mono K.out.1.size)⟩
      | true =>
        rw [hok] at cQ
        rcases k with _ | j
        · simp only [Nat.add_zero] at c0
          clear t1 hbl hall h1 hx
          go_wp2_with fail
          refine wp_region_quiet_below (by kernel_rfl) (by kernel_rfl) ?_
          repeat (go_big_quiet_step (exact cQ _ _))
          refine wpQuiet_nil ?_
          intro _ hw'
          obtain ⟨⟨dq, osq⟩, hw''⟩ := hw'
          subst hw''
          have bq := below_regrown wr dq osq
          go_wp2
          exact ⟨⟨1, by omega, by simp, K.out.1.trans (bq.mono K.out.1.size), ids_step K.out.2.1 (id_first hok)⟩, by simp [intOf]; omega⟩
        · have t2 := (h1.below hbl hb) j _ (atN_of (by omega))
          have e1 : ∀ d os, (grow (redrawn wr d) os).cell? ⟨b, off + j, none⟩ = some (.int .i64 (atN zs j)) := fun d os => ((below_regrown wr d os).cell (p := ⟨b, off + j, none⟩) hbW).trans t2
          have hj : (j : Int) < (n : Int) := by omega
          by_cases hq : atN zs (j + 1) ≤ atN zs j
          · clear t1 t2 hbl hall h1 hx
            go_wp2_with fail
            refine wp_region_quiet_below (by kernel_rfl) (by kernel_rfl) ?_
            repeat (go_big_quiet_step (exact cQ _ _))
            refine wpQuiet_nil ?_
            intro _ hw'
            obtain ⟨⟨dq, osq⟩, hw''⟩ := hw'
            subst hw''
            have bq := below_regrown wr dq osq
            go_wp2
            go_ret
            exact ⟨by rw [idsB, K.out.2.2, ids_fail hlt (id_low hq)]; rfl, K.out.1.trans (bq.mono K.out.1.size)⟩
          · have hq' : decide (atN zs (j + 1) ≤ atN zs j) = false := by simp; omega
            clear t1 t2 hbl hall h1 hx
            go_wp2_with fail
            refine wp_region_quiet_below (by kernel_rfl) (by kernel_rfl) ?_
            repeat (go_big_quiet_step (exact cQ _ _))
            refine wpQuiet_nil ?_
            intro _ hw'
            obtain ⟨⟨dq, osq⟩, hw''⟩ := hw'
            subst hw''
            have bq := below_regrown wr dq osq
            go_wp2
            exact ⟨⟨j + 1 + 1, by omega, by simp, K.out.1.trans (bq.mono K.out.1.size), ids_step K.out.2.1 (id_good hok (Int.not_le.2 hq))⟩, by simp [intOf]; omega⟩
    · have : k = n := by omega
      subst this
      have hd : decide (k < k) = false := by simp
      go_wp2
      go_ret
      exact ⟨by rw [idsB, hx, hall]; rfl, hbl⟩
end Go.Proofs.YtdmpobegobfpjaaGreat
namespace Go.Proofs.YtdmpobegobfpjaaGreat
theorem wrap_i64_small (n : Nat) (h : n < 4294967296) : IntKind.i64.wrap (n : Int) = (n : Int) := by
  simp [IntKind.wrap, IntKind.bits, IntKind.signed]; omega
theorem ofInt_i64 (a : Nat) (ha : a < 4294967296) : (BitVec.ofInt 64 (a : Int)).toNat = a := by
  rw [BitVec.ofInt_natCast, BitVec.toNat_ofNat]; exact Nat.mod_eq_of_lt (by omega)
theorem i64_or_nat (a b : Nat) (ha : a < 4294967296) (hb : b < 4294967296) : bits .or .i64 (a : Int) (b : Int) = ((a ||| b : Nat) : Int) := by
  have hx : a ||| b < 2 ^ 32 := Nat.or_lt_two_pow (by omega) (by omega)
  show IntKind.i64.wrap ((BitVec.ofInt 64 (a : Int) ||| BitVec.ofInt 64 (b : Int)).toNat : Int) = _
  rw [BitVec.toNat_or, ofInt_i64 a ha, ofInt_i64 b hb, wrap_i64_small _ (by omega)]
theorem i64_and_nat (a b : Nat) (ha : a < 4294967296) (hb : b < 4294967296) : bits .and .i64 (a : Int) (b : Int) = ((a &&& b : Nat) : Int) := by
  have hx : a &&& b < 2 ^ 32 := Nat.and_lt_two_pow _ (by omega)
  show IntKind.i64.wrap ((BitVec.ofInt 64 (a : Int) &&& BitVec.ofInt 64 (b : Int)).toNat : Int) = _
  rw [BitVec.toNat_and, ofInt_i64 a ha, ofInt_i64 b hb, wrap_i64_small _ (by omega)]
theorem or4_2 (v : Int) (h1 : 0 ≤ v) (h2 : v ≤ 1000000) : bits .or .i64 (v * 4) 2 = v * 4 + 2 := by
  obtain ⟨n, rfl⟩ := Int.eq_ofNat_of_zero_le h1
  have h := i64_or_nat (n * 4) 2 (by omega) (by omega)
  rw [nat_join 2 (n * 4) 2 (by omega) (by omega)] at h
  simpa using h
theorem or4_1 (v : Int) (h1 : 0 ≤ v) (h2 : v ≤ 1000000) : bits .or .i64 (v * 4) 1 = v * 4 + 1 := by
  obtain ⟨n, rfl⟩ := Int.eq_ofNat_of_zero_le h1
  have h := i64_or_nat (n * 4) 1 (by omega) (by omega)
  rw [nat_join 2 (n * 4) 1 (by omega) (by omega)] at h
  simpa using h
theorem or42_1 (v : Int) (h1 : 0 ≤ v) (h2 : v ≤ 1000000) : bits .or .i64 (v * 4 + 2) 1 = v * 4 + 3 := by
  obtain ⟨n, rfl⟩ := Int.eq_ofNat_of_zero_le h1
  have h := i64_or_nat (n * 4 + 2) 1 (by omega) (by omega)
  rw [nat_join 1 (n * 4 + 2) 1 (by omega) (by omega)] at h
  have e : ((n * 4 + 2 + 1 : Nat) : Int) = (n : Int) * 4 + 3 := by omega
  rw [e] at h
  simpa using h
theorem and_2 (x : Int) (h1 : 0 ≤ x) (h2 : x ≤ 4000003) : bits .and .i64 x 2 = x / 2 % 2 * 2 := by
  obtain ⟨n, rfl⟩ := Int.eq_ofNat_of_zero_le h1
  have h := i64_and_nat n 2 (by omega) (by omega)
  rw [show n &&& 2 = n / 2 % 2 * 2 from nat_bit 1 n] at h
  simpa using h
theorem and_1 (x : Int) (h1 : 0 ≤ x) (h2 : x ≤ 4000003) : bits .and .i64 x 1 = x % 2 := by
  obtain ⟨n, rfl⟩ := Int.eq_ofNat_of_zero_le h1
  have h := i64_and_nat n 1 (by omega) (by omega)
  rw [nat_mask1 n] at h
  simpa using h
def usedB (h : Int) : Bool := decide (h / 2 % 2 = 1)
def lockedB (h : Int) : Bool := decide (h % 2 = 1)
theorem used_ne (h : Int) : (h / 2 % 2 * 2 != 0) = usedB h := by
  unfold usedB; rw [Bool.eq_iff_iff]; simp; omega
theorem locked_ne (h : Int) : (h % 2 != 0) = lockedB h := by
  unfold lockedB; rw [Bool.eq_iff_iff]; simp; omega
theorem ret_eqb {a b : Bool} (h : a = b) : Ending.returned (.bool a) = .returned (.bool b) := by rw [h]
def bump (u l : Bool) : Int := (if u then 2 else 0) + (if l then 1 else 0)
end Go.Proofs.YtdmpobegobfpjaaGreat
namespace Go.Proofs.YtdmpobegobfpjaaGreat
open Go.RowKit
set_option maxHeartbeats 400000 in
theorem implHeadOk_yes (h : Int) (w : World) (h1 : 0 ≤ h) (h2 : h ≤ 4000003) :
    Calls Tryz.prog 228 #[.int .i64 h] w fun e w' => e = .returned (.bool true) ∧ w' = w := by
  go_enter Tryz.func228, Tryz.ntmps228
  go_wp2
  go_ret
  exact ⟨by simp [*], rfl⟩
set_option maxHeartbeats 400000 in
theorem implHeadOk_no (h : Int) (w : World) (hh : h < 0 ∨ 4000003 < h) :
    Calls Tryz.prog 228 #[.int .i64 h] w fun e w' => e = .returned (.bool false) ∧ w' = w := by
  rcases hh with hh | hh
  all_goals
    go_enter Tryz.func228, Tryz.ntmps228
    go_wp2
    go_ret
    exact ⟨by simp; try omega, rfl⟩
set_option maxHeartbeats 400000 in
theorem specHeadOk_yes (h : Int) (w : World) (h1 : 0 ≤ h) (h2 : h ≤ 4000003) :
    Calls Tryz.prog 86 #[.int .i64 h] w fun e w' => e = .returned (.bool true) ∧ w' = w := by
  go_enter Tryz.func86, Tryz.ntmps86
  go_wp2
  go_ret
  exact ⟨by simp [*], rfl⟩
set_option maxHeartbeats 400000 in
theorem specHeadOk_no (h : Int) (w : World) (hh : h < 0 ∨ 4000003 < h) :
    Calls Tryz.prog 86 #[.int .i64 h] w fun e w' => e = .returned (.bool false) ∧ w' = w := by
  rcases hh with hh | hh
  all_goals
    go_enter Tryz.func86, Tryz.ntmps86
    go_wp2
    go_ret
    exact ⟨by simp; try omega, rfl⟩
set_option maxHeartbeats 400000 in
theorem implUsed_yes (h : Int) (w : World) (h1 : 0 ≤ h) (h2 : h ≤ 4000003) :
    Calls Tryz.prog 204 #[.int .i64 h] w fun e w' => e = .returned (.bool (usedB h)) ∧ w' = w := by
  · have b2 := and_2 h h1 h2
    go_enter Tryz.func204, Tryz.ntmps204
    go_wp2
    go_ret
    exact ⟨ret_eqb (used_ne h), rfl⟩
set_option maxHeartbeats 400000 in
theorem implUsed_no (h : Int) (w : World) (hh : h < 0 ∨ 4000003 < h) :
    Calls Tryz.prog 204 #[.int .i64 h] w fun e w' => e = .returned (.bool false) ∧ w' = w := by
  rcases hh with hh | hh
  · have d : decide (0 ≤ h) = false := by simp; omega
    go_enter Tryz.func204, Tryz.ntmps204
    go_wp2
    go_ret
    exact ⟨rfl, rfl⟩
  · have d : decide (h ≤ 4000003) = false := by simp; omega
    go_enter Tryz.func204, Tryz.ntmps204
    go_wp2
    go_ret
    exact ⟨rfl, rfl⟩
set_option maxHeartbeats 400000 in
theorem specUsed_yes (h : Int) (w : World) (h1 : 0 ≤ h) (h2 : h ≤ 4000003) :
    Calls Tryz.prog 81 #[.int .i64 h] w fun e w' => e = .returned (.bool (usedB h)) ∧ w' = w := by
  · go_enter Tryz.func81, Tryz.ntmps81
    go_wp2
    go_ret
    exact ⟨rfl, rfl⟩
set_option maxHeartbeats 400000 in
theorem specUsed_no (h : Int) (w : World) (hh : h < 0 ∨ 4000003 < h) :
    Calls Tryz.prog 81 #[.int .i64 h] w fun e w' => e = .returned (.bool false) ∧ w' = w := by
  rcases hh with hh | hh
  · have d : decide (0 ≤ h) = false := by simp; omega
    go_enter Tryz.func81, Tryz.ntmps81
    go_wp2
    go_ret
    exact ⟨rfl, rfl⟩
  · have d : decide (h ≤ 4000003) = false := by simp; omega
    go_enter Tryz.func81, Tryz.ntmps81
    go_wp2
    go_ret
    exact ⟨rfl, rfl⟩
theorem implHeadOk_any (h : Int) (w : World) : Calls Tryz.prog 228 #[.int .i64 h] w fun e w' => e = .returned (.bool (inB 0 4000003 h)) ∧ w' = w := by
  by_cases hh : 0 ≤ h ∧ h ≤ 4000003
  · rw [inB_yes hh.1 hh.2]; exact implHeadOk_yes h w hh.1 hh.2
  · have e : inB 0 4000003 h = false := by simp [inB]; omega
    rw [e]; exact implHeadOk_no h w (by omega)
theorem implUsed_any (h : Int) (w : World) : Calls Tryz.prog 204 #[.int .i64 h] w fun e w' => e = .returned (.bool (inB 0 4000003 h && usedB h)) ∧ w' = w := by
  by_cases hh : 0 ≤ h ∧ h ≤ 4000003
  · rw [inB_yes hh.1 hh.2, Bool.true_and]; exact implUsed_yes h w hh.1 hh.2
  · have e : inB 0 4000003 h = false := by simp [inB]; omega
    rw [e, Bool.false_and]; exact implUsed_no h w (by omega)
theorem specHeadOk_any (h : Int) (w : World) : Calls Tryz.prog 86 #[.int .i64 h] w fun e w' => e = .returned (.bool (inB 0 4000003 h)) ∧ w' = w := by
  by_cases hh : 0 ≤ h ∧ h ≤ 4000003
  · rw [inB_yes hh.1 hh.2]; exact specHeadOk_yes h w hh.1 hh.2
  · have e : inB 0 4000003 h = false := by simp [inB]; omega
    rw [e]; exact specHeadOk_no h w (by omega)
theorem specUsed_any (h : Int) (w : World) : Calls Tryz.prog 81 #[.int .i64 h] w fun e w' => e = .returned (.bool (inB 0 4000003 h && usedB h)) ∧ w' = w := by
  by_cases hh : 0 ≤ h ∧ h ≤ 4000003
  · rw [inB_yes hh.1 hh.2, Bool.true_and]; exact specUsed_yes h w hh.1 hh.2
  · have e : inB 0 4000003 h = false := by simp [inB]; omega
    rw [e, Bool.false_and]; exact specUsed_no h w (by omega)
def cellB (c : C2) : Bool := inB 0 4000003 c.head && inB (-1000000000) 1000000000 c.value && (usedB c.head || decide (c.value = 0))
def cellsB (xs : List C2) : Bool := decide (xs.length = 6) && xs.all cellB
theorem cells_all {xs : List C2} (h : ∀ i, i < xs.length → cellB (at2 xs i) = true) : xs.all cellB = true := by
  rw [List.all_eq_true]
  intro s hs
  obtain ⟨i, hi, rfl⟩ := List.getElem_of_mem hs
  have := h i hi
  rw [at2, List.getElem?_eq_getElem hi] at this
  simpa using this
theorem cells_not {xs : List C2} {i : Nat} (hi : i < xs.length) (h : cellB (at2 xs i) = false) : xs.all cellB = false := by
  rw [List.all_eq_false]
  refine ⟨xs[i], List.getElem_mem hi, ?_⟩
  rw [at2, List.getElem?_eq_getElem hi] at h
  simpa using h
set_option maxHeartbeats 1000000 in
theorem implCellOk (w : World) (s : C2) : Calls Tryz.prog 210 #[.agg #[.int .i64 s.head, .int .i64 s.value]] w fun e w' => e = .returned (.bool (cellB s)) ∧ Below w.heap.size w w' := by
  obtain ⟨h, v⟩ := s
  unfold cellB
  go_enter Tryz.func210, Tryz.ntmps210
  cases g1 : inB 0 4000003 h <;> cases g2 : inB (-1000000000) 1000000000 v <;> cases g3 : usedB h
  all_goals go_wp2_with (first | (go_at_call 228; refine (implHeadOk_any _ _).mono ?_; rw [g1]; rintro e w' ⟨rfl, rfl⟩) | (go_at_call 221; refine (implValue _ _).mono ?_; rw [g2]; rintro e w' ⟨rfl, rfl⟩) | (go_at_call 204; refine (implUsed_any _ _).mono ?_; rw [g1, g3]; rintro e w' ⟨rfl, rfl⟩))
  all_goals (go_ret; refine ⟨ret_bool ?_, (Below.refl _ _).alloc (Nat.le_refl _) _⟩; simp)
theorem wrongCell (w : World) (s : C2) : Calls Tryz.prog 209 #[.agg #[.int .i64 s.head, .int .i64 s.value]] w fun e w' => e = .returned (.bool (!cellB s)) ∧ Below w.heap.size w w' := by
  go_enter Tryz.func209, Tryz.ntmps209
  go_wp2_with fail
  refine (implCellOk _ s).mono ?_
  rintro e w1 ⟨rfl, b1⟩
  go_wp2
  go_ret
  exact ⟨rfl, ((Below.refl _ _).alloc (Nat.le_refl _) _).trans (b1.mono (by simp))⟩
set_option maxHeartbeats 2000000 in
theorem indexWrong_some (w : World) (b off cap n : Nat) (xs : List C2) (hx : xs.length = n) (hn : n ≤ maxLen) (h1 : CellsAt w b off xs) (hb : b < w.heap.size) :
    Calls Tryz.prog 229 #[.slice (some ⟨b, off, none⟩) n cap, .func (.func 209) #[] #[]] w fun e w' => ∃ i : Int, e = .returned (.int .i64 i) ∧ (0 ≤ i ↔ xs.all cellB = false) ∧ Below w.heap.size w w' := by
  unfold maxLen at hn
  go_enter Tryz.func229, Tryz.ntmps229
  go_wp2
  go_loopw [8] (fun i wr => ∃ k : Nat, k ≤ n ∧ i = .int .i64 k ∧ Below w.heap.size w wr ∧ ∀ i, i < k → cellB (at2 xs i) = true) (fun i _ => n - (intOf i).toNat)
  case atStart => exact ⟨0, Nat.zero_le _, rfl, Below.refl _ _, fun i h => absurd h (by omega)⟩
  case round =>
    obtain ⟨k, hk, rfl, hbl, hall⟩ := hrel
    have K : Hid (Below w.heap.size w wr ∧ (∀ i, i < k → cellB (at2 xs i) = true) ∧ xs.length = n) := ⟨hbl, hall, hx⟩
    by_cases hlt : k < n
    · obtain ⟨c0, c1⟩ := (h1.get (i := k) (by omega)).below hbl hb
      clear hbl hall h1 hx
      cases hr : cellB (at2 xs k) with
      | true =>
        go_wp2_with fail
        refine (wrongCell _ (at2 xs k)).mono ?_
        rw [hr]
        rintro e w1 ⟨rfl, b1⟩
        go_wp2
        refine ⟨⟨k + 1, by omega, by simp, K.out.1.trans (b1.mono K.out.1.size), fun i hi => ?_⟩, by simp [intOf]; omega⟩
        by_cases e : i = k
        · rw [e]; exact hr
        · exact K.out.2.1 i (by omega)
      | false =>
        go_wp2_with fail
        refine (wrongCell _ (at2 xs k)).mono ?_
        rw [hr]
        rintro e w1 ⟨rfl, b1⟩
        go_wp2
        go_ret
        exact ⟨(k : Int), rfl, by simp [cells_not (xs := xs) (i := k) (by rw [K.out.2.2]; exact hlt) hr], K.out.1.trans (b1.mono K.out.1.size)⟩
    · have : k = n := by omega
      subst this
      have hd : decide (k < k) = false := by simp
      go_wp2
      go_ret
      exact ⟨-1, rfl, by simp [cells_all (xs := xs) (by rw [hx]; exact hall)], hbl⟩
theorem containsWrong_some (w : World) (b off cap n : Nat) (xs : List C2) (hx : xs.length = n) (hn : n ≤ maxLen) (h1 : CellsAt w b off xs) (hb : b < w.heap.size) :
    Calls Tryz.prog 211 #[.slice (some ⟨b, off, none⟩) n cap, .func (.func 209) #[] #[]] w fun e w' => e = .returned (.bool (!xs.all cellB)) ∧ Below w.heap.size w w' := by
  go_enter Tryz.func211, Tryz.ntmps211
  go_wp2_with fail
  refine (indexWrong_some w b off cap n xs hx hn h1 hb).mono ?_
  rintro e w1 ⟨i, rfl, hi, b1⟩
  have HI : Hid (0 ≤ i ↔ xs.all cellB = false) := hi
  clear hi
  go_wp2
  go_ret
  refine ⟨ret_bool ?_, b1⟩
  rw [decide_eq_true_eq, HI.out, Bool.not_eq_true']
set_option maxHeartbeats 2000000 in
theorem implCellsOk_any (w : World) (a : Option Addr) (n cap : Nat) (xs : List C2) (hn : n ≤ maxLen) (hs : SlC w w.heap.size a n xs) :
    Calls Tryz.prog 183 #[.slice a n cap] w fun e w' => e = .returned (.bool (cellsB xs)) ∧ Below w.heap.size w w' := by
  obtain ⟨hx, hs⟩ := hs
  unfold cellsB
  rw [hx]
  by_cases h6 : n = 6
  · subst h6
    rcases hs with hs | ⟨b, off, rfl, hb, h1⟩
    · omega
    · go_enter Tryz.func183, Tryz.ntmps183
      go_wp2_with fail
      refine (containsWrong_some w b off cap 6 xs hx hn h1 hb).mono ?_
      rintro e w1 ⟨rfl, b1⟩
      go_wp2
      go_ret
      exact ⟨ret_bool (by simp), b1⟩
  · have q : ((n : Int) == 6) = false := by simp; omega
    go_enter Tryz.func183, Tryz.ntmps183
    go_wp2
    go_ret
    exact ⟨ret_bool (by simp [h6]), Below.refl _ _⟩
set_option maxHeartbeats 2000000 in
theorem specCellsOk_six (w : World) (b off cap : Nat) (xs : List C2) (hx : xs.length = 6) (h1 : CellsAt w b off xs) (hb : b < w.heap.size) :
    Calls Tryz.prog 100 #[.slice (some ⟨b, off, none⟩) 6 cap] w fun e w' => e = .returned (.bool (xs.all cellB)) ∧ Below w.heap.size w w' := by
  go_enter Tryz.func100, Tryz.ntmps100
  go_wp2
  go_loopw [3] (fun i wr => ∃ k : Nat, k ≤ 6 ∧ i = .int .i64 k ∧ Below w.heap.size w wr ∧ ∀ i, i < k → cellB (at2 xs i) = true) (fun i _ => 6 - (intOf i).toNat)
  case atStart => exact ⟨0, Nat.zero_le _, rfl, Below.refl _ _, fun i h => absurd h (by omega)⟩
  case round =>
    obtain ⟨k, hk, rfl, hbl, hall⟩ := hrel
    have K : Hid (Below w.heap.size w wr ∧ (∀ i, i < k → cellB (at2 xs i) = true) ∧ xs.length = 6) := ⟨hbl, hall, hx⟩
    by_cases hlt : k < 6
    · obtain ⟨c0, c1⟩ := (h1.get (i := k) (by omega)).below hbl hb
      clear hbl hall h1 hx
      generalize hC : at2 xs k = C at c0 c1
      obtain ⟨h, v⟩ := C
      have KC : Hid (at2 xs k = ⟨h, v⟩) := hC
      have hlt' : (k : Int) < 6 := by omega
      clear hC
      cases g1 : inB 0 4000003 h <;> cases g2 : inB (-1000000000) 1000000000 v <;> cases g3 : usedB h
      all_goals
        have HB : Hid (cellB (at2 xs k) = (inB 0 4000003 h && inB (-1000000000) 1000000000 v && (usedB h || decide (v = 0)))) := by unfold Hid; rw [KC.out]; rfl
        rw [g1, g2, g3] at HB
        go_wp2_with (first | (go_at_call 86; refine (specHeadOk_any _ _).mono ?_; rw [g1]; rintro e w' ⟨rfl, rfl⟩) | (go_at_call 147; refine (specValue _ _).mono ?_; rw [g2]; rintro e w' ⟨rfl, rfl⟩) | (go_at_call 81; refine (specUsed_any _ _).mono ?_; rw [g1, g3]; rintro e w' ⟨rfl, rfl⟩))
      all_goals first
        | (go_ret
           exact ⟨by rw [cells_not (xs := xs) (i := k) (by rw [K.out.2.2]; exact hlt) (by rw [HB.out]; simp; try simpa using ‹(v != 0) = true›)]; rfl, (K.out.1.alloc K.out.1.size _)⟩)
        | (refine ⟨⟨k + 1, by omega, by simp, K.out.1.alloc K.out.1.size _, fun i hi => ?_⟩, by simp [intOf]; omega⟩
           by_cases e : i = k
           · rw [e, HB.out]; simp; try simpa using ‹(v != 0) = false›
           · exact K.out.2.1 i (by omega))
    · have : k = 6 := by omega
      subst this
      go_wp2
      go_ret
      exact ⟨by rw [cells_all (xs := xs) (by rw [hx]; exact hall)]; rfl, hbl⟩
theorem specCellsOk_any (w : World) (a : Option Addr) (n cap : Nat) (xs : List C2) (hn : n ≤ maxLen) (hs : SlC w w.heap.size a n xs) :
    Calls Tryz.prog 100 #[.slice a n cap] w fun e w' => e = .returned (.bool (cellsB xs)) ∧ Below w.heap.size w w' := by
  obtain ⟨hx, hs⟩ := hs
  unfold cellsB
  rw [hx]
  unfold maxLen at hn
  by_cases h6 : n = 6
  · subst h6
    rcases hs with hs | ⟨b, off, rfl, hb, h1⟩
    · omega
    · exact specCellsOk_six w b off cap xs hx h1 hb
  · have q : ((n : Int) == 6) = false := by simp; omega
    go_enter Tryz.func100, Tryz.ntmps100
    go_wp2
    go_ret
    exact ⟨ret_bool (by simp [h6]), Below.refl _ _⟩
end Go.Proofs.YtdmpobegobfpjaaGreat
namespace Go.Proofs.YtdmpobegobfpjaaGreat
open Go.RowKit
open Go.Sort (grow)
def at5 (xs : List S5) (i : Nat) : S5 := xs[i]?.getD ⟨0, 0, 0, false, 0⟩
def riseAt (xs : List S5) (i : Nat) : Bool := setOkB (at5 xs i) && (decide (i = 0) || decide ((at5 xs (i - 1)).slot < (at5 xs i).slot))
def l2At (xs : List S5) (i : Nat) : Bool := riseAt xs i && (decide (i = 0) || decide ((at5 xs i).region = (at5 xs 0).region))
def riseB (xs : List S5) : Bool := (List.range xs.length).all (riseAt xs)
def l2B (xs : List S5) : Bool := (List.range xs.length).all (l2At xs)
def sameB (r : Int) (xs : List S5) : Bool := xs.all (fun s => decide (s.region = r))
theorem all_step {f : Nat → Bool} {k : Nat} (h : (List.range k).all f = true) (h' : f k = true) : (List.range (k + 1)).all f = true := by
  rw [List.range_succ, List.all_append, h]; simp [h']
theorem all_fail {f : Nat → Bool} {k n : Nat} (hk : k < n) (h : f k = false) : (List.range n).all f = false := by
  rw [List.all_eq_false]; exact ⟨k, by simpa using hk, by simp [h]⟩
theorem at5_of {xs : List S5} {i : Nat} (h : i < xs.length) : xs[i]? = some (at5 xs i) := by
  simp [at5, List.getElem?_eq_getElem h]
theorem SetsAt.get {w : World} {b off : Nat} {xs : List S5} (h : SetsAt w b off xs) {i : Nat} (hi : i < xs.length) : SetAt w b (off + i * 5) (at5 xs i) := h i _ (at5_of hi)
theorem rise_bad {xs : List S5} {k : Nat} (h : setOkB (at5 xs k) = false) : riseAt xs k = false := by simp [riseAt, h]
theorem rise_slot {xs : List S5} {j : Nat} (h : (at5 xs (j + 1)).slot ≤ (at5 xs j).slot) : riseAt xs (j + 1) = false := by simp [riseAt]; intro _; omega
theorem rise_first {xs : List S5} (h : setOkB (at5 xs 0) = true) : riseAt xs 0 = true := by simp [riseAt, h]
theorem rise_good {xs : List S5} {j : Nat} (h : setOkB (at5 xs (j + 1)) = true) (h' : (at5 xs j).slot < (at5 xs (j + 1)).slot) : riseAt xs (j + 1) = true := by simp [riseAt, h, h']
set_option maxHeartbeats 2000000 in
theorem l2Sets_some (w : World) (b off cap n : Nat) (xs : List S5) (hx : xs.length = n) (hn : n ≤ maxLen) (h1 : SetsAt w b off xs) (hb : b < w.heap.size) :
    Calls Tryz.prog 148 #[.slice (some ⟨b, off, none⟩) n cap] w fun e w' => e = .returned (.bool (l2B xs)) ∧ Below w.heap.size w w' := by
  unfold maxLen at hn
  go_enter Tryz.func148, Tryz.ntmps148
  go_wp2
  go_loopw [3] (fun i wr => ∃ k : Nat, k ≤ n ∧ i = .int .i64 k ∧ Below w.heap.size w wr ∧ (List.range k).all (l2At xs) = true) (fun i _ => n - (intOf i).toNat)
  case atStart => exact ⟨0, Nat.zero_le _, rfl, Below.refl _ _, rfl⟩
  case round =>
    obtain ⟨k, hk, rfl, hbl, hall⟩ := hrel
    have K : Hid (Below w.heap.size w wr ∧ (List.range k).all (l2At xs) = true ∧ xs.length = n) := ⟨hbl, hall, hx⟩
    by_cases hlt : k < n
    · have t1 := ((h1.get (i := k) (by omega)).below hbl hb).regrown
      have c0 := fun d os => (t1 d os).c0
      have c1 := fun d os => (t1 d os).c1
      have c2 := fun d os => (t1 d os).c2
      have c3 := fun d os => (t1 d os).c3
      have c4 := fun d os => (t1 d os).c4
      have cQ : ∀ d os, Calls Tryz.prog 104 #[.agg #[.int .i64 (at5 xs k).region, .int .i64 (at5 xs k).slot, .int .i64 (at5 xs k).value, .bool (at5 xs k).used, .int .i64 (at5 xs k).version]] (grow (redrawn wr d) os) fun e w'' => e = .returned (.bool (setOkB (at5 xs k))) ∧ ∃ p : Regrown, w'' = grow (redrawn wr p.d) p.os := fun d os => Calls.regrown_of (specSetOk _ (at5 xs k))
      cases hok : setOkB (at5 xs k) with
      | false =>
        rw [hok] at cQ
        clear t1 hbl hall h1 hx
        go_wp2_with fail
        refine wp_region_quiet_below (by kernel_rfl) (by kernel_rfl) ?_
        repeat (go_big_quiet_step (exact cQ _ _))
        refine wpQuiet_nil ?_
        intro _ hw'
        obtain ⟨⟨dq, osq⟩, hw''⟩ := hw'
        subst hw''
        have bq := below_regrown wr dq osq
        go_wp2
        go_ret
        exact ⟨by rw [l2B, K.out.2.2, all_fail hlt (by simp [l2At, rise_bad hok])]; rfl, K.out.1.trans (bq.mono K.out.1.size)⟩
      | true =>
        rw [hok] at cQ
        rcases k with _ | j
        · simp only [Nat.zero_mul, Nat.add_zero] at c0 c1 c2 c3 c4
          clear t1 hbl hall h1 hx
          go_wp2_with fail
          refine wp_region_quiet_below (by kernel_rfl) (by kernel_rfl) ?_
          repeat (go_big_quiet_step (exact cQ _ _))
          refine wpQuiet_nil ?_
          intro _ hw'
          obtain ⟨⟨dq, osq⟩, hw''⟩ := hw'
          subst hw''
          have bq := below_regrown wr dq osq
          go_wp2
          exact ⟨⟨1, by omega, by simp, K.out.1.trans (bq.mono K.out.1.size), all_step K.out.2.1 (by simp [l2At, rise_first hok])⟩, by simp [intOf]; omega⟩
        · have t2 := ((h1.get (i := j) (by omega)).below hbl hb).regrown
          have t3 := ((h1.get (i := 0) (by omega)).below hbl hb).regrown
          have e1 := fun d os => (t2 d os).c1
          have f0 := fun d os => (t3 d os).c0
          simp only [Nat.zero_mul, Nat.add_zero] at f0
          have hj : (j : Int) < (n : Int) := by omega
          have h0n : (0 : Int) < (n : Int) := by omega
          by_cases hs : (at5 xs (j + 1)).slot ≤ (at5 xs j).slot
          · clear t1 t2 t3 hbl hall h1 hx
            go_wp2_with fail
            refine wp_region_quiet_below (by kernel_rfl) (by kernel_rfl) ?_
            repeat (go_big_quiet_step (exact cQ _ _))
            refine wpQuiet_nil ?_
            intro _ hw'
            obtain ⟨⟨dq, osq⟩, hw''⟩ := hw'
            subst hw''
            have bq := below_regrown wr dq osq
            go_wp2
            go_ret
            exact ⟨by rw [l2B, K.out.2.2, all_fail hlt (by simp [l2At, rise_slot hs])]; rfl, K.out.1.trans (bq.mono K.out.1.size)⟩
          · have hs' : decide ((at5 xs (j + 1)).slot ≤ (at5 xs j).slot) = false := by simp; omega
            by_cases hr : (at5 xs (j + 1)).region = (at5 xs 0).region
            · clear t1 t2 t3 hbl hall h1 hx
              have hr' : ((at5 xs (j + 1)).region == (at5 xs 0).region) = true := by simp [hr]
              have HR : Hid ((at5 xs (j + 1)).region = (at5 xs 0).region) := hr
              clear hr
              go_wp2_with fail
              refine wp_region_quiet_below (by kernel_rfl) (by kernel_rfl) ?_
              repeat (go_big_quiet_step (exact cQ _ _))
              refine wpQuiet_nil ?_
              intro _ hw'
              obtain ⟨⟨dq, osq⟩, hw''⟩ := hw'
              subst hw''
              have bq := below_regrown wr dq osq
              go_wp2
              exact ⟨⟨j + 1 + 1, by omega, by simp, K.out.1.trans (bq.mono K.out.1.size), all_step K.out.2.1 (by simp [l2At, rise_good hok hs, HR.out])⟩, by simp [intOf]; omega⟩
            · clear t1 t2 t3 hbl hall h1 hx
              have hr' : ((at5 xs (j + 1)).region == (at5 xs 0).region) = false := by simp [hr]
              have HR : Hid (¬ (at5 xs (j + 1)).region = (at5 xs 0).region) := hr
              clear hr
              go_wp2_with fail
              refine wp_region_quiet_below (by kernel_rfl) (by kernel_rfl) ?_
              repeat (go_big_quiet_step (exact cQ _ _))
              refine wpQuiet_nil ?_
              intro _ hw'
              obtain ⟨⟨dq, osq⟩, hw''⟩ := hw'
              subst hw''
              have bq := below_regrown wr dq osq
              go_wp2
              go_ret
              exact ⟨by rw [l2B, K.out.2.2, all_fail hlt (by simp [l2At, HR.out])]; rfl, K.out.1.trans (bq.mono K.out.1.size)⟩
    · have : k = n := by omega
      subst this
      have hd : decide (k < k) = false := by simp
      go_wp2
      go_ret
      exact ⟨by rw [l2B, hx, hall]; rfl, hbl⟩
set_option maxHeartbeats 2000000 in
theorem setsRise_some (w : World) (b off cap n : Nat) (xs : List S5) (hx : xs.length = n) (hn : n ≤ maxLen) (h1 : SetsAt w b off xs) (hb : b < w.heap.size) :
    Calls Tryz.prog 206 #[.slice (some ⟨b, off, none⟩) n cap] w fun e w' => e = .returned (.bool (riseB xs)) ∧ Below w.heap.size w w' := by
  unfold maxLen at hn
  go_enter Tryz.func206, Tryz.ntmps206
  go_wp2
  go_loopw [7] (fun i wr => ∃ k : Nat, k ≤ n ∧ i = .int .i64 k ∧ Below w.heap.size w wr ∧ (List.range k).all (riseAt xs) = true) (fun i _ => n - (intOf i).toNat)
  case atStart => exact ⟨0, Nat.zero_le _, rfl, Below.refl _ _, rfl⟩
  case round =>
    obtain ⟨k, hk, rfl, hbl, hall⟩ := hrel
    have K : Hid (Below w.heap.size w wr ∧ (List.range k).all (riseAt xs) = true ∧ xs.length = n) := ⟨hbl, hall, hx⟩
    by_cases hlt : k < n
    · obtain ⟨c0, c1, c2, c3, c4⟩ := (h1.get (i := k) (by omega)).below hbl hb
      have hprev : ∀ j, k = j + 1 → wr.cell? ⟨b, off + j * 5 + 1, none⟩ = some (.int .i64 (at5 xs j).slot) := fun j e => ((h1.get (i := j) (by omega)).below hbl hb).c1
      have KP : Hid (∀ j, k = j + 1 → wr.cell? ⟨b, off + j * 5 + 1, none⟩ = some (.int .i64 (at5 xs j).slot)) := hprev
      have hbr : b < wr.heap.size := Nat.lt_of_lt_of_le hb hbl.size
      clear hprev hbl hall h1 hx
      have tz : SetAt (wr.alloc (.cells #[.int .i64 (at5 xs k).region, .int .i64 (at5 xs k).slot, .int .i64 (at5 xs k).value, .bool (at5 xs k).used, .int .i64 (at5 xs k).version] 106)) wr.heap.size 0 (at5 xs k) := ⟨by go_simp, by go_simp, by go_simp, by go_simp, by go_simp⟩
      have TZ : Hid (SetAt (wr.alloc (.cells #[.int .i64 (at5 xs k).region, .int .i64 (at5 xs k).slot, .int .i64 (at5 xs k).value, .bool (at5 xs k).used, .int .i64 (at5 xs k).version] 106)) wr.heap.size 0 (at5 xs k)) := tz
      clear tz
      rcases k with _ | j
      · simp only [Nat.zero_mul, Nat.add_zero] at c0 c1 c2 c3 c4
        go_wp2_with fail
        generalize hW : wr.alloc (.cells #[.int .i64 (at5 xs 0).region, .int .i64 (at5 xs 0).slot, .int .i64 (at5 xs 0).value, .bool (at5 xs 0).used, .int .i64 (at5 xs 0).version] 106) = W at TZ ⊢
        have bW : Below wr.heap.size wr W := by subst hW; exact (Below.refl _ _).alloc (Nat.le_refl _) _
        have t1 := TZ.out.regrown
        have d0 := fun d os => (t1 d os).c0
        have d1 := fun d os => (t1 d os).c1
        have d2 := fun d os => (t1 d os).c2
        have d3 := fun d os => (t1 d os).c3
        have d4 := fun d os => (t1 d os).c4
        simp only [Nat.zero_add] at d1 d2 d3 d4
        have cQ : ∀ d os, Calls Tryz.prog 200 #[.agg #[.int .i64 (at5 xs 0).region, .int .i64 (at5 xs 0).slot, .int .i64 (at5 xs 0).value, .bool (at5 xs 0).used, .int .i64 (at5 xs 0).version]] (grow (redrawn W d) os) fun e w'' => e = .returned (.bool (setOkB (at5 xs 0))) ∧ ∃ p : Regrown, w'' = grow (redrawn W p.d) p.os := fun d os => Calls.regrown_of (implSetOk _ (at5 xs 0))
        clear hW c0 c1 c2 c3 c4 t1
        cases hok : setOkB (at5 xs 0) with
        | false =>
          rw [hok] at cQ
          refine wp_region_quiet_below (by kernel_rfl) (by kernel_rfl) ?_
          repeat (go_big_quiet_step (exact cQ _ _))
          refine wpQuiet_nil ?_
          intro _ hw'
          obtain ⟨⟨dq, osq⟩, hw''⟩ := hw'
          subst hw''
          have bq := below_regrown W dq osq
          go_wp2
          go_ret
          exact ⟨by rw [riseB, K.out.2.2, all_fail hlt (rise_bad hok)]; rfl, K.out.1.trans ((bW.trans (bq.mono bW.size)).mono K.out.1.size)⟩
        | true =>
          rw [hok] at cQ
          refine wp_region_quiet_below (by kernel_rfl) (by kernel_rfl) ?_
          repeat (go_big_quiet_step (exact cQ _ _))
          refine wpQuiet_nil ?_
          intro _ hw'
          obtain ⟨⟨dq, osq⟩, hw''⟩ := hw'
          subst hw''
          have bq := below_regrown W dq osq
          go_wp2
          exact ⟨⟨1, by omega, by simp, K.out.1.trans ((bW.trans (bq.mono bW.size)).mono K.out.1.size), all_step K.out.2.1 (rise_first hok)⟩, by simp [intOf]; omega⟩
      · have hj : (j : Int) < (n : Int) := by omega
        have hp := KP.out j rfl
        go_wp2_with fail
        generalize hW : wr.alloc (.cells #[.int .i64 (at5 xs (j + 1)).region, .int .i64 (at5 xs (j + 1)).slot, .int .i64 (at5 xs (j + 1)).value, .bool (at5 xs (j + 1)).used, .int .i64 (at5 xs (j + 1)).version] 106) = W at TZ ⊢
        have bW : Below wr.heap.size wr W := by subst hW; exact (Below.refl _ _).alloc (Nat.le_refl _) _
        have t1 := TZ.out.regrown
        have d0 := fun d os => (t1 d os).c0
        have d1 := fun d os => (t1 d os).c1
        have d2 := fun d os => (t1 d os).c2
        have d3 := fun d os => (t1 d os).c3
        have d4 := fun d os => (t1 d os).c4
        simp only [Nat.zero_add] at d1 d2 d3 d4
        have p1 := cell_regrown ((bW.cell (p := ⟨b, off + j * 5 + 1, none⟩) hbr).trans hp)
        have cQ : ∀ d os, Calls Tryz.prog 200 #[.agg #[.int .i64 (at5 xs (j + 1)).region, .int .i64 (at5 xs (j + 1)).slot, .int .i64 (at5 xs (j + 1)).value, .bool (at5 xs (j + 1)).used, .int .i64 (at5 xs (j + 1)).version]] (grow (redrawn W d) os) fun e w'' => e = .returned (.bool (setOkB (at5 xs (j + 1)))) ∧ ∃ p : Regrown, w'' = grow (redrawn W p.d) p.os := fun d os => Calls.regrown_of (implSetOk _ (at5 xs (j + 1)))
        clear hW c0 c1 c2 c3 c4 t1 hp
        cases hok : setOkB (at5 xs (j + 1)) with
        | false =>
          rw [hok] at cQ
          refine wp_region_quiet_below (by kernel_rfl) (by kernel_rfl) ?_
          repeat (go_big_quiet_step (exact cQ _ _))
          refine wpQuiet_nil ?_
          intro _ hw'
          obtain ⟨⟨dq, osq⟩, hw''⟩ := hw'
          subst hw''
          have bq := below_regrown W dq osq
          go_wp2
          go_ret
          exact ⟨by rw [riseB, K.out.2.2, all_fail hlt (rise_bad hok)]; rfl, K.out.1.trans ((bW.trans (bq.mono bW.size)).mono K.out.1.size)⟩
        | true =>
          rw [hok] at cQ
          by_cases hs : (at5 xs (j + 1)).slot ≤ (at5 xs j).slot
          · skip
            refine wp_region_quiet_below (by kernel_rfl) (by kernel_rfl) ?_
            repeat (go_big_quiet_step (exact cQ _ _))
            refine wpQuiet_nil ?_
            intro _ hw'
            obtain ⟨⟨dq, osq⟩, hw''⟩ := hw'
            subst hw''
            have bq := below_regrown W dq osq
            go_wp2
            go_ret
            exact ⟨by rw [riseB, K.out.2.2, all_fail hlt (rise_slot hs)]; rfl, K.out.1.trans ((bW.trans (bq.mono bW.size)).mono K.out.1.size)⟩
          · have hs' : decide ((at5 xs (j + 1)).slot ≤ (at5 xs j).slot) = false := by simp; omega
            refine wp_region_quiet_below (by kernel_rfl) (by kernel_rfl) ?_
            repeat (go_big_quiet_step (exact cQ _ _))
            refine wpQuiet_nil ?_
            intro _ hw'
            obtain ⟨⟨dq, osq⟩, hw''⟩ := hw'
            subst hw''
            have bq := below_regrown W dq osq
            go_wp2
            exact ⟨⟨j + 1 + 1, by omega, by simp, K.out.1.trans ((bW.trans (bq.mono bW.size)).mono K.out.1.size), all_step K.out.2.1 (rise_good hok (by omega))⟩, by simp [intOf]; omega⟩
    · have : k = n := by omega
      subst this
      have hd : decide (k < k) = false := by simp
      go_wp2
      go_ret
      exact ⟨by rw [riseB, hx, hall]; rfl, hbl⟩
theorem elsewhere (w : World) (g : Nat) (r : Int) (s : S5) (hg : w.cell? ⟨g, 2, none⟩ = some (.int .i64 r)) (hgb : g < w.heap.size) :
    Calls Tryz.prog 213 #[.agg #[.int .i64 s.region, .int .i64 s.slot, .int .i64 s.value, .bool s.used, .int .i64 s.version], .pointer (some ⟨g, 0, none⟩)] w fun e w' => e = .returned (.bool (!decide (s.region = r))) ∧ Below w.heap.size w w' := by
  go_enter Tryz.func213, Tryz.ntmps213
  go_wp2
  go_ret
  exact ⟨ret_bool (by simp), (Below.refl _ _).alloc (Nat.le_refl _) _⟩
theorem same_all {r : Int} {xs : List S5} (h : ∀ i, i < xs.length → (at5 xs i).region = r) : sameB r xs = true := by
  rw [sameB, List.all_eq_true]
  intro s hs
  obtain ⟨i, hi, rfl⟩ := List.getElem_of_mem hs
  have := h i hi
  rw [at5, List.getElem?_eq_getElem hi] at this
  simpa using this
theorem same_not {r : Int} {xs : List S5} {i : Nat} (hi : i < xs.length) (h : ¬ (at5 xs i).region = r) : sameB r xs = false := by
  rw [sameB, List.all_eq_false]
  refine ⟨xs[i], List.getElem_mem hi, ?_⟩
  rw [at5, List.getElem?_eq_getElem hi] at h
  simpa using h
set_option maxHeartbeats 2000000 in
theorem indexFunc_some (w : World) (g : Nat) (r : Int) (b off cap n : Nat) (xs : List S5) (hx : xs.length = n) (hn : n ≤ maxLen) (h1 : SetsAt w b off xs) (hb : b < w.heap.size) (hg : w.cell? ⟨g, 2, none⟩ = some (.int .i64 r)) (hgb : g < w.heap.size) :
    Calls Tryz.prog 174 #[.slice (some ⟨b, off, none⟩) n cap, .func (.func 213) #[] #[.pointer (some ⟨g, 0, none⟩)]] w fun e w' => ∃ i : Int, e = .returned (.int .i64 i) ∧ (0 ≤ i ↔ sameB r xs = false) ∧ Below w.heap.size w w' := by
  unfold maxLen at hn
  go_enter Tryz.func174, Tryz.ntmps174
  go_wp2
  go_loopw [8] (fun i wr => ∃ k : Nat, k ≤ n ∧ i = .int .i64 k ∧ Below w.heap.size w wr ∧ ∀ i, i < k → (at5 xs i).region = r) (fun i _ => n - (intOf i).toNat)
  case atStart => exact ⟨0, Nat.zero_le _, rfl, Below.refl _ _, fun i h => absurd h (by omega)⟩
  case round =>
    obtain ⟨k, hk, rfl, hbl, hall⟩ := hrel
    have K : Hid (Below w.heap.size w wr ∧ (∀ i, i < k → (at5 xs i).region = r) ∧ xs.length = n) := ⟨hbl, hall, hx⟩
    by_cases hlt : k < n
    · obtain ⟨c0, c1, c2, c3, c4⟩ := (h1.get (i := k) (by omega)).below hbl hb
      have hg' := (hbl.cell (p := ⟨g, 2, none⟩) hgb).trans hg
      clear hbl hall h1 hx
      by_cases hr : (at5 xs k).region = r
      · have hd : (!decide ((at5 xs k).region = r)) = false := by simp [hr]
        have HR : Hid ((at5 xs k).region = r) := hr
        clear hr
        go_wp2_with fail
        refine (elsewhere _ g r (at5 xs k) hg' (Nat.lt_of_lt_of_le hgb K.out.1.size)).mono ?_
        rw [hd]
        rintro e w1 ⟨rfl, b1⟩
        clear hd
        go_wp2
        refine ⟨⟨k + 1, by omega, by simp, K.out.1.trans (b1.mono K.out.1.size), fun i hi => ?_⟩, by simp [intOf]; omega⟩
        by_cases e : i = k
        · rw [e]; exact HR.out
        · exact K.out.2.1 i (by omega)
      · have hd : (!decide ((at5 xs k).region = r)) = true := by simp [hr]
        go_wp2_with fail
        refine (elsewhere _ g r (at5 xs k) hg' (Nat.lt_of_lt_of_le hgb K.out.1.size)).mono ?_
        rw [hd]
        rintro e w1 ⟨rfl, b1⟩
        clear hd
        go_wp2
        go_ret
        exact ⟨(k : Int), rfl, by simp [same_not (xs := xs) (i := k) (by rw [K.out.2.2]; exact hlt) hr], K.out.1.trans (b1.mono K.out.1.size)⟩
    · have : k = n := by omega
      subst this
      have hd : decide (k < k) = false := by simp
      go_wp2
      go_ret
      exact ⟨-1, rfl, by simp [same_all (r := r) (xs := xs) (by rw [hx]; exact hall)], hbl⟩
theorem containsFunc_some (w : World) (g : Nat) (r : Int) (b off cap n : Nat) (xs : List S5) (hx : xs.length = n) (hn : n ≤ maxLen) (h1 : SetsAt w b off xs) (hb : b < w.heap.size) (hg : w.cell? ⟨g, 2, none⟩ = some (.int .i64 r)) (hgb : g < w.heap.size) :
    Calls Tryz.prog 139 #[.slice (some ⟨b, off, none⟩) n cap, .func (.func 213) #[] #[.pointer (some ⟨g, 0, none⟩)]] w fun e w' => e = .returned (.bool (!sameB r xs)) ∧ Below w.heap.size w w' := by
  go_enter Tryz.func139, Tryz.ntmps139
  go_wp2_with fail
  refine (indexFunc_some w g r b off cap n xs hx hn h1 hb hg hgb).mono ?_
  rintro e w1 ⟨i, rfl, hi, b1⟩
  go_wp2
  go_ret
  refine ⟨ret_bool ?_, b1⟩
  simp
theorem specId (w : World) (x : Int) : Calls Tryz.prog 53 #[.int .i64 x] w fun e w' => e = .returned (.bool (inB 1 1000000 x)) ∧ w' = w := by
  go_enter Tryz.func53, Tryz.ntmps53
  go_wp2_with (go_at_call 43; refine (specIn _ _ _ _).mono ?_; rintro e w' ⟨rfl, rfl⟩)
  go_ret
  exact ⟨rfl, rfl⟩
theorem implId (w : World) (x : Int) : Calls Tryz.prog 110 #[.int .i64 x] w fun e w' => e = .returned (.bool (inB 1 1000000 x)) ∧ w' = w := by
  go_enter Tryz.func110, Tryz.ntmps110
  go_wp2
  all_goals (go_ret; refine ⟨ret_bool ?_, rfl⟩; simp [inB_iff]; try omega)
def recB (k t r : Int) (xs : List S5) : Bool := inB 1 3 k && inB 1 1000000 t && inB 0 5 r && decide (1 ≤ xs.length) && decide (xs.length ≤ 12) && riseB xs && sameB r xs
def specB (k t r : Int) (xs : List S5) : Bool := inB 1 3 k && inB 1 1000000 t && inB 0 5 r && decide (1 ≤ xs.length) && decide (xs.length ≤ 12) && l2B xs && decide ((at5 xs 0).region = r)
theorem specB_eq (k t r : Int) (xs : List S5) : specB k t r xs = recB k t r xs := by
  unfold specB recB
  by_cases h : 1 ≤ xs.length
  · have : (l2B xs && decide ((at5 xs 0).region = r)) = (riseB xs && sameB r xs) := by
      rw [Bool.eq_iff_iff]
      simp only [Bool.and_eq_true, decide_eq_true_eq, l2B, riseB, List.all_eq_true, List.mem_range, l2At, Bool.or_eq_true]
      constructor
      · rintro ⟨h1, h2⟩
        refine ⟨fun i hi => (h1 i hi).1, same_all fun i hi => ?_⟩
        rcases (h1 i hi).2 with e | e
        · rw [e]; exact h2
        · rw [e]; exact h2
      · rintro ⟨h1, h2⟩
        have ha : ∀ i, i < xs.length → (at5 xs i).region = r := fun i hi => by
          by_cases e : (at5 xs i).region = r
          · exact e
          · rw [same_not hi e] at h2; cases h2
        exact ⟨fun i hi => ⟨h1 i hi, .inr (by rw [ha i hi, ha 0 (by omega)])⟩, ha 0 (by omega)⟩
    simp only [Bool.and_assoc, this]
  · simp [h]
set_option maxHeartbeats 2000000 in
theorem specRecordOk_some (w : World) (k t r : Int) (b off cap n : Nat) (xs : List S5) (hx : xs.length = n) (hn : n ≤ maxLen) (h1 : SetsAt w b off xs) (hb : b < w.heap.size) :
    Calls Tryz.prog 101 #[.agg #[.int .i64 k, .int .i64 t, .int .i64 r, .slice (some ⟨b, off, none⟩) n cap]] w fun e w' => e = .returned (.bool (specB k t r xs)) ∧ Below w.heap.size w w' := by
  go_enter Tryz.func101, Tryz.ntmps101
  go_wp2_with fail
  have e0 : (w.alloc (.cells #[.int .i64 k, .int .i64 t, .int .i64 r, .slice (some ⟨b, off, none⟩) n cap] 143)).cell? ⟨w.heap.size, 0, none⟩ = some (.int .i64 k) := by go_simp
  have e1 : (w.alloc (.cells #[.int .i64 k, .int .i64 t, .int .i64 r, .slice (some ⟨b, off, none⟩) n cap] 143)).cell? ⟨w.heap.size, 1, none⟩ = some (.int .i64 t) := by go_simp
  have e2 : (w.alloc (.cells #[.int .i64 k, .int .i64 t, .int .i64 r, .slice (some ⟨b, off, none⟩) n cap] 143)).cell? ⟨w.heap.size, 2, none⟩ = some (.int .i64 r) := by go_simp
  have e3 : (w.alloc (.cells #[.int .i64 k, .int .i64 t, .int .i64 r, .slice (some ⟨b, off, none⟩) n cap] 143)).cell? ⟨w.heap.size, 3, none⟩ = some (.slice (some ⟨b, off, none⟩) n cap) := by go_simp
  generalize hW : w.alloc (.cells #[.int .i64 k, .int .i64 t, .int .i64 r, .slice (some ⟨b, off, none⟩) n cap] 143) = W at e0 e1 e2 e3 ⊢
  have bW : Below w.heap.size w W := by subst hW; exact (Below.refl _ _).alloc (Nat.le_refl _) _
  clear hW
  have h1' := h1.below bW hb
  have hb' : b < W.heap.size := Nat.lt_of_lt_of_le hb bW.size
  have d0 := cell_regrown e0
  have d1 := cell_regrown e1
  have d2 := cell_regrown e2
  have d3 := cell_regrown e3
  have cK : ∀ d os, Calls Tryz.prog 43 #[.int .i64 k, .int .i64 1, .int .i64 3] (grow (redrawn W d) os) fun e w'' => e = .returned (.bool (inB 1 3 k)) ∧ ∃ p : Regrown, w'' = grow (redrawn W p.d) p.os := fun d os => Calls.regrown_of ((specIn _ _ _ _).mono fun _ _ ⟨h, h'⟩ => ⟨h, by rw [h']; exact Below.refl _ _⟩)
  have cT : ∀ d os, Calls Tryz.prog 53 #[.int .i64 t] (grow (redrawn W d) os) fun e w'' => e = .returned (.bool (inB 1 1000000 t)) ∧ ∃ p : Regrown, w'' = grow (redrawn W p.d) p.os := fun d os => Calls.regrown_of ((specId _ _).mono fun _ _ ⟨h, h'⟩ => ⟨h, by rw [h']; exact Below.refl _ _⟩)
  have cR : ∀ d os, Calls Tryz.prog 99 #[.int .i64 r] (grow (redrawn W d) os) fun e w'' => e = .returned (.bool (inB 0 5 r)) ∧ ∃ p : Regrown, w'' = grow (redrawn W p.d) p.os := fun d os => Calls.regrown_of ((specRegion _ _).mono fun _ _ ⟨h, h'⟩ => ⟨h, by rw [h']; exact Below.refl _ _⟩)
  have cS : ∀ d os, Calls Tryz.prog 148 #[.slice (some ⟨b, off, none⟩) n cap] (grow (redrawn W d) os) fun e w'' => e = .returned (.bool (l2B xs)) ∧ ∃ p : Regrown, w'' = grow (redrawn W p.d) p.os := fun d os => Calls.regrown_of (l2Sets_some _ b off cap n xs hx hn (h1'.below (below_regrown W d os) hb') (Nat.lt_of_lt_of_le hb' (below_regrown W d os).size))
  have hn' : n ≤ 9223372036854775807 := hn
  clear e0 e1 e2 e3
  cases g1 : inB 1 3 k with
  | false =>
    rw [g1] at cK
    refine wp_region_quiet_below (by kernel_rfl) (by kernel_rfl) ?_
    repeat (go_big_quiet_step (first | (go_at_call 43; exact cK _ _) | (go_at_call 53; exact cT _ _) | (go_at_call 99; exact cR _ _) | (go_at_call 148; exact cS _ _)))
    refine wpQuiet_nil ?_
    intro _ hw'
    obtain ⟨⟨dq, osq⟩, hw''⟩ := hw'
    subst hw''
    have bq := below_regrown W dq osq
    go_wp2
    go_ret
    exact ⟨by rw [specB, g1]; rfl, bW.trans (bq.mono bW.size)⟩
  | true =>
    rw [g1] at cK
    cases g2 : inB 1 1000000 t with
    | false =>
      rw [g2] at cT
      refine wp_region_quiet_below (by kernel_rfl) (by kernel_rfl) ?_
      repeat (go_big_quiet_step (first | (go_at_call 43; exact cK _ _) | (go_at_call 53; exact cT _ _) | (go_at_call 99; exact cR _ _) | (go_at_call 148; exact cS _ _)))
      refine wpQuiet_nil ?_
      intro _ hw'
      obtain ⟨⟨dq, osq⟩, hw''⟩ := hw'
      subst hw''
      have bq := below_regrown W dq osq
      go_wp2
      go_ret
      exact ⟨by rw [specB, g1, g2]; rfl, bW.trans (bq.mono bW.size)⟩
    | true =>
      rw [g2] at cT
      cases g3 : inB 0 5 r with
      | false =>
        rw [g3] at cR
        refine wp_region_quiet_below (by kernel_rfl) (by kernel_rfl) ?_
        repeat (go_big_quiet_step (first | (go_at_call 43; exact cK _ _) | (go_at_call 53; exact cT _ _) | (go_at_call 99; exact cR _ _) | (go_at_call 148; exact cS _ _)))
        refine wpQuiet_nil ?_
        intro _ hw'
        obtain ⟨⟨dq, osq⟩, hw''⟩ := hw'
        subst hw''
        have bq := below_regrown W dq osq
        go_wp2
        go_ret
        exact ⟨by rw [specB, g1, g2, g3]; rfl, bW.trans (bq.mono bW.size)⟩
      | true =>
        rw [g3] at cR
        by_cases g4 : 1 ≤ n
        · have z := (h1'.get (i := 0) (by omega)).c0
          simp only [Nat.zero_mul, Nat.add_zero] at z
          have dz := cell_regrown z
          have HX : Hid (xs.length = n) := hx
          have g4' : (1 : Int) ≤ (n : Int) := by omega
          have g4'' : (0 : Int) < (n : Int) := by omega
          clear z hx h1 h1'
          by_cases g5 : n ≤ 12
          · have g5' : (n : Int) ≤ 12 := by omega
            cases g6 : l2B xs with
            | false =>
              rw [g6] at cS
              refine wp_region_quiet_below (by kernel_rfl) (by kernel_rfl) ?_
              repeat (go_big_quiet_step (first | (go_at_call 43; exact cK _ _) | (go_at_call 53; exact cT _ _) | (go_at_call 99; exact cR _ _) | (go_at_call 148; exact cS _ _)))
              refine wpQuiet_nil ?_
              intro _ hw'
              obtain ⟨⟨dq, osq⟩, hw''⟩ := hw'
              subst hw''
              have bq := below_regrown W dq osq
              go_wp2
              go_ret
              exact ⟨by rw [specB, g1, g2, g3, HX.out, decide_eq_true g4, decide_eq_true g5, g6]; rfl, bW.trans (bq.mono bW.size)⟩
            | true =>
              rw [g6] at cS
              by_cases g7 : (at5 xs 0).region = r
              · have g7' : ((at5 xs 0).region == r) = true := by simp [g7]
                have H7 : Hid ((at5 xs 0).region = r) := g7
                clear g7
                refine wp_region_quiet_below (by kernel_rfl) (by kernel_rfl) ?_
                repeat (go_big_quiet_step (first | (go_at_call 43; exact cK _ _) | (go_at_call 53; exact cT _ _) | (go_at_call 99; exact cR _ _) | (go_at_call 148; exact cS _ _)))
                refine wpQuiet_nil ?_
                intro _ hw'
                obtain ⟨⟨dq, osq⟩, hw''⟩ := hw'
                subst hw''
                have bq := below_regrown W dq osq
                go_wp2
                go_ret
                exact ⟨by rw [specB, g1, g2, g3, HX.out, decide_eq_true g4, decide_eq_true g5, g6, decide_eq_true H7.out]; rfl, bW.trans (bq.mono bW.size)⟩
              · have g7' : ((at5 xs 0).region == r) = false := by simp [g7]
                refine wp_region_quiet_below (by kernel_rfl) (by kernel_rfl) ?_
                repeat (go_big_quiet_step (first | (go_at_call 43; exact cK _ _) | (go_at_call 53; exact cT _ _) | (go_at_call 99; exact cR _ _) | (go_at_call 148; exact cS _ _)))
                refine wpQuiet_nil ?_
                intro _ hw'
                obtain ⟨⟨dq, osq⟩, hw''⟩ := hw'
                subst hw''
                have bq := below_regrown W dq osq
                go_wp2
                go_ret
                exact ⟨by rw [specB, g1, g2, g3, HX.out, decide_eq_true g4, decide_eq_true g5, g6, decide_eq_false g7]; rfl, bW.trans (bq.mono bW.size)⟩
          · have g5' : decide ((n : Int) ≤ 12) = false := by simp; omega
            refine wp_region_quiet_below (by kernel_rfl) (by kernel_rfl) ?_
            repeat (go_big_quiet_step (first | (go_at_call 43; exact cK _ _) | (go_at_call 53; exact cT _ _) | (go_at_call 99; exact cR _ _) | (go_at_call 148; exact cS _ _)))
            refine wpQuiet_nil ?_
            intro _ hw'
            obtain ⟨⟨dq, osq⟩, hw''⟩ := hw'
            subst hw''
            have bq := below_regrown W dq osq
            go_wp2
            go_ret
            exact ⟨by rw [specB, g1, g2, g3, HX.out, decide_eq_true g4, decide_eq_false (show ¬ n ≤ 12 by omega)]; rfl, bW.trans (bq.mono bW.size)⟩
        · have g4' : decide (1 ≤ (n : Int)) = false := by simp; omega
          have HX : Hid (xs.length = n) := hx
          clear hx h1 h1'
          refine wp_region_quiet_below (by kernel_rfl) (by kernel_rfl) ?_
          repeat (go_big_quiet_step (first | (go_at_call 43; exact cK _ _) | (go_at_call 53; exact cT _ _) | (go_at_call 99; exact cR _ _) | (go_at_call 148; exact cS _ _)))
          refine wpQuiet_nil ?_
          intro _ hw'
          obtain ⟨⟨dq, osq⟩, hw''⟩ := hw'
          subst hw''
          have bq := below_regrown W dq osq
          go_wp2
          go_ret
          exact ⟨by rw [specB, g1, g2, g3, HX.out, decide_eq_false (show ¬ 1 ≤ n by omega)]; rfl, bW.trans (bq.mono bW.size)⟩
set_option maxHeartbeats 2000000 in
theorem specRecordOk_none (w : World) (k t r : Int) (a : Option Addr) (cap : Nat) :
    Calls Tryz.prog 101 #[.agg #[.int .i64 k, .int .i64 t, .int .i64 r, .slice a 0 cap]] w fun e w' => e = .returned (.bool (specB k t r [])) ∧ Below w.heap.size w w' := by
  go_enter Tryz.func101, Tryz.ntmps101
  go_wp2_with fail
  have e0 : (w.alloc (.cells #[.int .i64 k, .int .i64 t, .int .i64 r, .slice a 0 cap] 143)).cell? ⟨w.heap.size, 0, none⟩ = some (.int .i64 k) := by go_simp
  have e1 : (w.alloc (.cells #[.int .i64 k, .int .i64 t, .int .i64 r, .slice a 0 cap] 143)).cell? ⟨w.heap.size, 1, none⟩ = some (.int .i64 t) := by go_simp
  have e2 : (w.alloc (.cells #[.int .i64 k, .int .i64 t, .int .i64 r, .slice a 0 cap] 143)).cell? ⟨w.heap.size, 2, none⟩ = some (.int .i64 r) := by go_simp
  have e3 : (w.alloc (.cells #[.int .i64 k, .int .i64 t, .int .i64 r, .slice a 0 cap] 143)).cell? ⟨w.heap.size, 3, none⟩ = some (.slice a 0 cap) := by go_simp
  generalize hW : w.alloc (.cells #[.int .i64 k, .int .i64 t, .int .i64 r, .slice a 0 cap] 143) = W at e0 e1 e2 e3 ⊢
  have bW : Below w.heap.size w W := by subst hW; exact (Below.refl _ _).alloc (Nat.le_refl _) _
  clear hW
  have d0 := cell_regrown e0
  have d1 := cell_regrown e1
  have d2 := cell_regrown e2
  have d3 := cell_regrown e3
  have cK : ∀ d os, Calls Tryz.prog 43 #[.int .i64 k, .int .i64 1, .int .i64 3] (grow (redrawn W d) os) fun e w'' => e = .returned (.bool (inB 1 3 k)) ∧ ∃ p : Regrown, w'' = grow (redrawn W p.d) p.os := fun d os => Calls.regrown_of ((specIn _ _ _ _).mono fun _ _ ⟨h, h'⟩ => ⟨h, by rw [h']; exact Below.refl _ _⟩)
  have cT : ∀ d os, Calls Tryz.prog 53 #[.int .i64 t] (grow (redrawn W d) os) fun e w'' => e = .returned (.bool (inB 1 1000000 t)) ∧ ∃ p : Regrown, w'' = grow (redrawn W p.d) p.os := fun d os => Calls.regrown_of ((specId _ _).mono fun _ _ ⟨h, h'⟩ => ⟨h, by rw [h']; exact Below.refl _ _⟩)
  have cR : ∀ d os, Calls Tryz.prog 99 #[.int .i64 r] (grow (redrawn W d) os) fun e w'' => e = .returned (.bool (inB 0 5 r)) ∧ ∃ p : Regrown, w'' = grow (redrawn W p.d) p.os := fun d os => Calls.regrown_of ((specRegion _ _).mono fun _ _ ⟨h, h'⟩ => ⟨h, by rw [h']; exact Below.refl _ _⟩)
  clear e0 e1 e2 e3
  cases g1 : inB 1 3 k with
  | false =>
    rw [g1] at cK
    refine wp_region_quiet_below (by kernel_rfl) (by kernel_rfl) ?_
    repeat (go_big_quiet_step (first | (go_at_call 43; exact cK _ _) | (go_at_call 53; exact cT _ _) | (go_at_call 99; exact cR _ _)))
    refine wpQuiet_nil ?_
    intro _ hw'
    obtain ⟨⟨dq, osq⟩, hw''⟩ := hw'
    subst hw''
    have bq := below_regrown W dq osq
    go_wp2
    go_ret
    exact ⟨by rw [specB, g1]; rfl, bW.trans (bq.mono bW.size)⟩
  | true =>
    rw [g1] at cK
    cases g2 : inB 1 1000000 t with
    | false =>
      rw [g2] at cT
      refine wp_region_quiet_below (by kernel_rfl) (by kernel_rfl) ?_
      repeat (go_big_quiet_step (first | (go_at_call 43; exact cK _ _) | (go_at_call 53; exact cT _ _) | (go_at_call 99; exact cR _ _)))
      refine wpQuiet_nil ?_
      intro _ hw'
      obtain ⟨⟨dq, osq⟩, hw''⟩ := hw'
      subst hw''
      have bq := below_regrown W dq osq
      go_wp2
      go_ret
      exact ⟨by rw [specB, g1, g2]; rfl, bW.trans (bq.mono bW.size)⟩
    | true =>
      rw [g2] at cT
      cases g3 : inB 0 5 r with
      | false =>
        rw [g3] at cR
        refine wp_region_quiet_below (by kernel_rfl) (by kernel_rfl) ?_
        repeat (go_big_quiet_step (first | (go_at_call 43; exact cK _ _) | (go_at_call 53; exact cT _ _) | (go_at_call 99; exact cR _ _)))
        refine wpQuiet_nil ?_
        intro _ hw'
        obtain ⟨⟨dq, osq⟩, hw''⟩ := hw'
        subst hw''
        have bq := below_regrown W dq osq
        go_wp2
        go_ret
        exact ⟨by rw [specB, g1, g2, g3]; rfl, bW.trans (bq.mono bW.size)⟩
      | true =>
        rw [g3] at cR
        refine wp_region_quiet_below (by kernel_rfl) (by kernel_rfl) ?_
        repeat (go_big_quiet_step (first | (go_at_call 43; exact cK _ _) | (go_at_call 53; exact cT _ _) | (go_at_call 99; exact cR _ _)))
        refine wpQuiet_nil ?_
        intro _ hw'
        obtain ⟨⟨dq, osq⟩, hw''⟩ := hw'
        subst hw''
        have bq := below_regrown W dq osq
        go_wp2
        go_ret
        exact ⟨by rw [specB, g1, g2, g3]; rfl, bW.trans (bq.mono bW.size)⟩
theorem specRecordOk_any (w : World) (k t r : Int) (a : Option Addr) (n cap : Nat) (xs : List S5) (hn : n ≤ maxLen) (hs : Sl w w.heap.size a n xs) :
    Calls Tryz.prog 101 #[.agg #[.int .i64 k, .int .i64 t, .int .i64 r, .slice a n cap]] w fun e w' => e = .returned (.bool (recB k t r xs)) ∧ Below w.heap.size w w' := by
  obtain ⟨h1, h2⟩ := hs
  rw [← specB_eq]
  rcases h2 with rfl | ⟨b, off, rfl, hb, hx⟩
  · rw [List.eq_nil_of_length_eq_zero h1]
    exact specRecordOk_none w k t r a cap
  · exact specRecordOk_some w k t r b off cap n xs h1 hn hx hb
def copB (ks : List K2) (i : Nat) : Bool := inB 0 5 (atK ks i).region && cellsB (atK ks i).cells && (decide (i = 0) || decide ((atK ks (i - 1)).region < (atK ks i).region))
def logB (rs : List R4) (i : Nat) : Bool := recB (atR rs i).kind (atR rs i).tx (atR rs i).region (atR rs i).sets
def machB (m : M4) : Bool := decide (m.copies.length ≤ 6) && decide (m.log.length ≤ 200) && decide (m.cleared.length ≤ 60) && idsB m.cleared && (List.range m.copies.length).all (copB m.copies) && (List.range m.log.length).all (logB m.log)
theorem cop_low {ks : List K2} {j : Nat} (h : (atK ks (j + 1)).region ≤ (atK ks j).region) : copB ks (j + 1) = false := by
  have : decide ((atK ks j).region < (atK ks (j + 1)).region) = false := by simp; omega
  simp [copB, this]
theorem cop_first {ks : List K2} (h : inB 0 5 (atK ks 0).region = true) (h' : cellsB (atK ks 0).cells = true) : copB ks 0 = true := by simp [copB, h, h']
theorem cop_good {ks : List K2} {j : Nat} (h : inB 0 5 (atK ks (j + 1)).region = true) (h' : cellsB (atK ks (j + 1)).cells = true) (hq : (atK ks j).region < (atK ks (j + 1)).region) : copB ks (j + 1) = true := by simp [copB, h, h', hq]
theorem specRegion_q (w : World) (x : Int) : Calls Tryz.prog 99 #[.int .i64 x] w fun e w' => e = .returned (.bool (inB 0 5 x)) ∧ Below w.heap.size w w' := (specRegion w x).mono (by rintro e w' ⟨h, rfl⟩; exact ⟨h, Below.refl _ _⟩)
set_option maxHeartbeats 8000000 in
theorem specMachineOk_any (w : World) (v : MV) (m : M4) (hk : m.copies.length ≤ maxLen) (hr : m.log.length ≤ maxLen) (hn : m.cleared.length ≤ maxLen) (hks : ∀ r ∈ m.copies, r.cells.length ≤ maxLen) (hrs : ∀ r ∈ m.log, r.sets.length ≤ maxLen) (hs : SlM w v m) :
    Calls Tryz.prog 55 #[v.val m] w fun e w' => e = .returned (.bool (machB m)) ∧ Below w.heap.size w w' := by
  obtain ⟨ac, cc, al, cl, ad, cd⟩ := v
  simp only [MV.val]
  have H : Hid (SlM w ⟨ac, cc, al, cl, ad, cd⟩ m ∧ (∀ r ∈ m.copies, r.cells.length ≤ maxLen) ∧ (∀ r ∈ m.log, r.sets.length ≤ maxLen) ∧ m.cleared.length ≤ maxLen) := ⟨hs, hks, hrs, hn⟩
  clear hs hks hrs
  unfold maxLen at hk hr hn
  have BW : Hid (Below w.heap.size w (w.alloc (.cells #[.bool m.alive, .slice ac m.copies.length cc, .slice al m.log.length cl, .slice ad m.cleared.length cd] 83))) := (Below.refl _ _).alloc (Nat.le_refl _) _
  by_cases g1 : m.copies.length ≤ 6
  case neg =>
    have hb : machB m = false := by simp [machB, g1]
    have d1 : decide ((6 : Int) < (m.copies.length : Int)) = true := by simp; omega
    rw [hb]
    go_enter Tryz.func55, Tryz.ntmps55
    go_wp2
    go_ret
    exact ⟨rfl, BW.out⟩
  have d1 : decide ((6 : Int) < (m.copies.length : Int)) = false := by simp; omega
  by_cases g2 : m.log.length ≤ 200
  case neg =>
    have hb : machB m = false := by simp [machB, g2]
    have d2 : decide ((200 : Int) < (m.log.length : Int)) = true := by simp; omega
    rw [hb]
    go_enter Tryz.func55, Tryz.ntmps55
    go_wp2
    go_ret
    exact ⟨rfl, BW.out⟩
  have d2 : decide ((200 : Int) < (m.log.length : Int)) = false := by simp; omega
  by_cases g3 : m.cleared.length ≤ 60
  case neg =>
    have hb : machB m = false := by simp [machB, g3]
    have d3 : decide ((60 : Int) < (m.cleared.length : Int)) = true := by simp; omega
    rw [hb]
    go_enter Tryz.func55, Tryz.ntmps55
    go_wp2
    go_ret
    exact ⟨rfl, BW.out⟩
  have d3 : decide ((60 : Int) < (m.cleared.length : Int)) = false := by simp; omega
  have HM : Hid (machB m = (idsB m.cleared && (List.range m.copies.length).all (copB m.copies) && (List.range m.log.length).all (logB m.log))) := by unfold Hid; simp [machB, g1, g2, g3]
  have q1 : (w.alloc (.cells #[.bool m.alive, .slice ac m.copies.length cc, .slice al m.log.length cl, .slice ad m.cleared.length cd] 83)).cell? ⟨w.heap.size, 1, none⟩ = some (.slice ac m.copies.length cc) := by go_simp
  have q2 : (w.alloc (.cells #[.bool m.alive, .slice ac m.copies.length cc, .slice al m.log.length cl, .slice ad m.cleared.length cd] 83)).cell? ⟨w.heap.size, 2, none⟩ = some (.slice al m.log.length cl) := by go_simp
  have qz : w.heap.size < (w.alloc (.cells #[.bool m.alive, .slice ac m.copies.length cc, .slice al m.log.length cl, .slice ad m.cleared.length cd] 83)).heap.size := by simp
  have Q : Hid ((w.alloc (.cells #[.bool m.alive, .slice ac m.copies.length cc, .slice al m.log.length cl, .slice ad m.cleared.length cd] 83)).cell? ⟨w.heap.size, 1, none⟩ = some (.slice ac m.copies.length cc) ∧ (w.alloc (.cells #[.bool m.alive, .slice ac m.copies.length cc, .slice al m.log.length cl, .slice ad m.cleared.length cd] 83)).cell? ⟨w.heap.size, 2, none⟩ = some (.slice al m.log.length cl) ∧ w.heap.size < (w.alloc (.cells #[.bool m.alive, .slice ac m.copies.length cc, .slice al m.log.length cl, .slice ad m.cleared.length cd] 83)).heap.size) := ⟨q1, q2, qz⟩
  clear q1 q2 qz
  go_enter Tryz.func55, Tryz.ntmps55
  go_wp2_with fail
  generalize w.alloc (.cells #[.bool m.alive, .slice ac m.copies.length cc, .slice al m.log.length cl, .slice ad m.cleared.length cd] 83) = W at *
  refine (l6Rises_any W ad m.cleared.length cd m.cleared H.out.2.2.2 (H.out.1.later BW.out).n).mono ?_
  rintro e w1 ⟨rfl, b1⟩
  have q1 := (b1.cell (p := ⟨w.heap.size, 1, none⟩) Q.out.2.2).trans Q.out.1
  have q2 := (b1.cell (p := ⟨w.heap.size, 2, none⟩) Q.out.2.2).trans Q.out.2.1
  have B1 : Hid (Below w.heap.size w w1 ∧ w.heap.size < w1.heap.size ∧ SlM w1 ⟨ac, cc, al, cl, ad, cd⟩ m) := ⟨BW.out.trans (b1.mono BW.out.size), Nat.lt_of_lt_of_le Q.out.2.2 b1.size, (H.out.1.later BW.out).later b1⟩
  clear b1
  cases gi : idsB m.cleared with
  | false =>
    go_wp2
    go_ret
    exact ⟨by rw [HM.out, gi]; rfl, B1.out.1⟩
  | true =>
    have HN : Hid (machB m = ((List.range m.copies.length).all (copB m.copies) && (List.range m.log.length).all (logB m.log))) := by unfold Hid; rw [HM.out, gi]; rfl
    clear gi HM
    have QQ : Hid (w1.cell? ⟨w.heap.size, 1, none⟩ = some (.slice ac m.copies.length cc) ∧ w1.cell? ⟨w.heap.size, 2, none⟩ = some (.slice al m.log.length cl)) := ⟨q1, q2⟩
    go_wp2
    go_loopw [3] (fun v3 wr => ∃ k : Nat, k ≤ m.copies.length ∧ v3 = .int .i64 k ∧ Below w1.heap.size w1 wr ∧ (List.range k).all (copB m.copies) = true) (fun v3 _ => m.copies.length - (intOf v3).toNat)
    case atStart => exact ⟨0, Nat.zero_le _, rfl, Below.refl _ _, rfl⟩
    case round =>
      obtain ⟨k, hkk, rfl, hbl, hall⟩ := hrel
      clear q1 q2
      have p1 := (hbl.cell (p := ⟨w.heap.size, 1, none⟩) B1.out.2.1).trans QQ.out.1
      have p2 := (hbl.cell (p := ⟨w.heap.size, 2, none⟩) B1.out.2.1).trans QQ.out.2
      have hzW : w.heap.size < wr.heap.size := Nat.lt_of_lt_of_le B1.out.2.1 hbl.size
      have K : Hid (Below w1.heap.size w1 wr ∧ (List.range k).all (copB m.copies) = true) := ⟨hbl, hall⟩
      have KF : Hid (∀ V, Below wr.heap.size wr V → Below w.heap.size w V) := fun V h => B1.out.1.trans ((K.out.1.trans (h.mono K.out.1.size)).mono B1.out.1.size)
      by_cases hlt : k < m.copies.length
      · obtain ⟨_, hsk⟩ := (B1.out.2.2.later hbl).k
        rcases hsk with hsk | ⟨b, off, rfl, hb, h1⟩
        · omega
        have t1 := h1 k _ (atK_of hlt)
        obtain ⟨a', cap', e1, s1, hcp⟩ := t1.c1
        have x1 : ∀ d os, (grow (redrawn wr d) os).cell? ⟨w.heap.size, 1, none⟩ = some (.slice (some ⟨b, off, none⟩) m.copies.length cc) := fun d os => ((below_regrown wr d os).cell (p := ⟨w.heap.size, 1, none⟩) hzW).trans p1
        have y0 : ∀ d os, (grow (redrawn wr d) os).cell? ⟨b, off + k * 2, none⟩ = some (.int .i64 (atK m.copies k).region) := fun d os => ((below_regrown wr d os).cell (p := ⟨b, off + k * 2, none⟩) hb).trans t1.c0
        have y1 : ∀ d os, (grow (redrawn wr d) os).cell? ⟨b, off + k * 2 + 1, none⟩ = some (.slice a' (atK m.copies k).cells.length cap') := fun d os => ((below_regrown wr d os).cell (p := ⟨b, off + k * 2 + 1, none⟩) hb).trans e1
        have hcl : (atK m.copies k).cells.length ≤ maxLen := H.out.2.1 _ (List.mem_of_getElem? (atK_of hlt))
        have cR : ∀ d os, Calls Tryz.prog 99 #[.int .i64 (atK m.copies k).region] (grow (redrawn wr d) os) fun e w'' => e = .returned (.bool (inB 0 5 (atK m.copies k).region)) ∧ ∃ p : Regrown, w'' = grow (redrawn wr p.d) p.os := fun d os => Calls.regrown_of (specRegion_q _ _)
        have cC : ∀ d os, Calls Tryz.prog 100 #[.slice a' (atK m.copies k).cells.length cap'] (grow (redrawn wr d) os) fun e w'' => e = .returned (.bool (cellsB (atK m.copies k).cells)) ∧ ∃ p : Regrown, w'' = grow (redrawn wr p.d) p.os := fun d os => Calls.regrown_of (specCellsOk_any _ a' _ cap' _ hcl ((s1.below (below_regrown wr d os)).mono (below_regrown wr d os).size))
        have HF : Hid (copB m.copies k = false → machB m = false) := fun h => by rw [HN.out, ids_fail hlt h]; rfl
        cases gr : inB 0 5 (atK m.copies k).region with
        | false =>
          rw [gr] at cR
          clear t1 hbl hall h1 s1 e1 hcl
          go_wp2_with fail
          refine wp_region_quiet_below (by kernel_rfl) (by kernel_rfl) ?_
          repeat (go_big_quiet_step (first | exact cR _ _ | exact cC _ _))
          refine wpQuiet_nil ?_
          intro _ hw'
          obtain ⟨⟨dq, osq⟩, hw''⟩ := hw'
          subst hw''
          have bq := below_regrown wr dq osq
          go_wp2
          go_ret
          exact ⟨by rw [HF.out (by simp [copB, gr])]; rfl, KF.out _ bq⟩
        | true =>
          rw [gr] at cR
          cases gc : cellsB (atK m.copies k).cells with
          | false =>
            rw [gc] at cC
            clear t1 hbl hall h1 s1 e1 hcl
            go_wp2_with fail
            refine wp_region_quiet_below (by kernel_rfl) (by kernel_rfl) ?_
            repeat (go_big_quiet_step (first | exact cR _ _ | exact cC _ _))
            refine wpQuiet_nil ?_
            intro _ hw'
            obtain ⟨⟨dq, osq⟩, hw''⟩ := hw'
            subst hw''
            have bq := below_regrown wr dq osq
            go_wp2
            go_ret
            exact ⟨by rw [HF.out (by simp [copB, gc])]; rfl, KF.out _ bq⟩
          | true =>
            rw [gc] at cC
            rcases k with _ | j
            · simp only [Nat.zero_mul, Nat.add_zero] at y0 y1
              clear t1 hbl hall h1 s1 e1 hcl
              go_wp2_with fail
              refine wp_region_quiet_below (by kernel_rfl) (by kernel_rfl) ?_
              repeat (go_big_quiet_step (first | exact cR _ _ | exact cC _ _))
              refine wpQuiet_nil ?_
              intro _ hw'
              obtain ⟨⟨dq, osq⟩, hw''⟩ := hw'
              subst hw''
              have bq := below_regrown wr dq osq
              go_wp2
              exact ⟨⟨1, by omega, by simp, K.out.1.trans (bq.mono K.out.1.size), ids_step K.out.2 (cop_first gr gc)⟩, by simp [intOf]; omega⟩
            · have t2 := h1 j _ (atK_of (by omega))
              have z0 : ∀ d os, (grow (redrawn wr d) os).cell? ⟨b, off + j * 2, none⟩ = some (.int .i64 (atK m.copies j).region) := fun d os => ((below_regrown wr d os).cell (p := ⟨b, off + j * 2, none⟩) hb).trans t2.c0
              have hj : (j : Int) < (m.copies.length : Int) := by omega
              by_cases hq : (atK m.copies (j + 1)).region ≤ (atK m.copies j).region
              · clear t1 t2 hbl hall h1 s1 e1 hcl
                go_wp2_with fail
                refine wp_region_quiet_below (by kernel_rfl) (by kernel_rfl) ?_
                repeat (go_big_quiet_step (first | exact cR _ _ | exact cC _ _))
                refine wpQuiet_nil ?_
                intro _ hw'
                obtain ⟨⟨dq, osq⟩, hw''⟩ := hw'
                subst hw''
                have bq := below_regrown wr dq osq
                go_wp2
                go_ret
                exact ⟨by rw [HF.out (cop_low hq)]; rfl, KF.out _ bq⟩
              · have hq' : decide ((atK m.copies (j + 1)).region ≤ (atK m.copies j).region) = false := by simp; omega
                have HQ : Hid ((atK m.copies j).region < (atK m.copies (j + 1)).region) := by unfold Hid; omega
                clear t1 t2 hbl hall h1 s1 e1 hcl hq
                go_wp2_with fail
                refine wp_region_quiet_below (by kernel_rfl) (by kernel_rfl) ?_
                repeat (go_big_quiet_step (first | exact cR _ _ | exact cC _ _))
                refine wpQuiet_nil ?_
                intro _ hw'
                obtain ⟨⟨dq, osq⟩, hw''⟩ := hw'
                subst hw''
                have bq := below_regrown wr dq osq
                go_wp2
                exact ⟨⟨j + 1 + 1, by omega, by simp, K.out.1.trans (bq.mono K.out.1.size), ids_step K.out.2 (cop_good gr gc HQ.out)⟩, by simp [intOf]; omega⟩
      · have : k = m.copies.length := by omega
        subst this
        have hd : decide ((m.copies.length : Int) < (m.copies.length : Int)) = false := by simp
        have HL : Hid (machB m = (List.range m.log.length).all (logB m.log)) := by unfold Hid; rw [HN.out, hall]; rfl
        have SR : Hid (SlM wr ⟨ac, cc, al, cl, ad, cd⟩ m ∧ w.heap.size < wr.heap.size ∧ wr.cell? ⟨w.heap.size, 2, none⟩ = some (.slice al m.log.length cl)) := ⟨B1.out.2.2.later hbl, hzW, p2⟩
        clear hall hbl
        go_wp2
        generalize wr = W2 at *
        go_loopw [4] (fun v4 wr => ∃ k : Nat, k ≤ m.log.length ∧ v4 = .int .i64 k ∧ Below W2.heap.size W2 wr ∧ (List.range k).all (logB m.log) = true) (fun v4 _ => m.log.length - (intOf v4).toNat)
        case atStart => exact ⟨0, Nat.zero_le _, rfl, Below.refl _ _, rfl⟩
        case round =>
          obtain ⟨j, hj, rfl, hb2, hal2⟩ := hrel
          have p3 := (hb2.cell (p := ⟨w.heap.size, 2, none⟩) SR.out.2.1).trans SR.out.2.2
          by_cases hlt : j < m.log.length
          · obtain ⟨_, hsr⟩ := (SR.out.1.later hb2).r
            rcases hsr with hsr | ⟨b, off, rfl, hb, h1⟩
            · omega
            have t1 := h1 j _ (atR_of hlt)
            obtain ⟨a', cap', e1, s1, hcp⟩ := t1.c3
            have c0 := t1.c0
            have c1 := t1.c1
            have c2 := t1.c2
            have HC : Hid (Sl wr wr.heap.size a' (atR m.log j).sets.length (atR m.log j).sets ∧ (atR m.log j).sets.length ≤ maxLen ∧ Below W2.heap.size W2 wr ∧ (List.range j).all (logB m.log) = true) := ⟨s1, H.out.2.2.1 _ (List.mem_of_getElem? (atR_of hlt)), hb2, hal2⟩
            have HF : Hid (logB m.log j = false → machB m = false) := fun h => by rw [HL.out]; exact ids_fail hlt h
            clear t1 h1 s1 hb2 hal2
            go_wp2_with fail
            refine (specRecordOk_any wr (atR m.log j).kind (atR m.log j).tx (atR m.log j).region a' _ cap' (atR m.log j).sets HC.out.2.1 HC.out.1).mono ?_
            rintro e w3 ⟨rfl, b3⟩
            cases gl : recB (atR m.log j).kind (atR m.log j).tx (atR m.log j).region (atR m.log j).sets with
            | false =>
              go_wp2
              go_ret
              exact ⟨by rw [HF.out gl]; rfl, KF.out _ (HC.out.2.2.1.trans (b3.mono HC.out.2.2.1.size))⟩
            | true =>
              go_wp2
              exact ⟨⟨j + 1, by omega, by simp, HC.out.2.2.1.trans (b3.mono HC.out.2.2.1.size), ids_step HC.out.2.2.2 gl⟩, by simp [intOf]; omega⟩
          · have : j = m.log.length := by omega
            subst this
            have hd2 : decide ((m.log.length : Int) < (m.log.length : Int)) = false := by simp
            go_wp2
            go_ret
            exact ⟨by rw [HL.out, hal2]; rfl, KF.out _ hb2⟩
set_option maxHeartbeats 2000000 in
theorem implRecordOk_low (w : World) (k t r : Int) (a : Option Addr) (n cap : Nat) (xs : List S5) (hb : inB 1 1000000 t = false ∨ inB 0 5 r = false ∨ ¬ (1 ≤ k ∧ k ≤ 3)) :
    Calls Tryz.prog 188 #[.agg #[.int .i64 k, .int .i64 t, .int .i64 r, .slice a n cap]] w fun e w' => e = .returned (.bool (recB k t r xs)) ∧ Below w.heap.size w w' := by
  have hk : recB k t r xs = false := by
    rcases hb with h | h | h
    · simp [recB, h]
    · simp [recB, h]
    · have : inB 1 3 k = false := by simp [inB]; omega
      simp [recB, this]
  rw [hk]
  clear hk
  by_cases k1 : k < 1
  · clear hb
    go_enter Tryz.func188, Tryz.ntmps188
    go_wp2_with (first | (go_at_call 110; refine (implId _ _).mono ?_; rw [g2]; rintro e w' ⟨rfl, rfl⟩) | (go_at_call 182; refine (implRegion _ _).mono ?_; rw [g3]; rintro e w' ⟨rfl, rfl⟩))
    go_ret
    exact ⟨rfl, (Below.refl _ _).alloc (Nat.le_refl _) _⟩
  · have k1' : decide (k < 1) = false := by simp; omega
    by_cases k2 : 3 < k
    · clear hb
      go_enter Tryz.func188, Tryz.ntmps188
      go_wp2_with (first | (go_at_call 110; refine (implId _ _).mono ?_; rw [g2]; rintro e w' ⟨rfl, rfl⟩) | (go_at_call 182; refine (implRegion _ _).mono ?_; rw [g3]; rintro e w' ⟨rfl, rfl⟩))
      go_ret
      exact ⟨rfl, (Below.refl _ _).alloc (Nat.le_refl _) _⟩
    · have k2' : decide (3 < k) = false := by simp; omega
      have hb2 : inB 1 1000000 t = false ∨ (inB 1 1000000 t = true ∧ inB 0 5 r = false) := by
        cases g2 : inB 1 1000000 t with
        | false => exact .inl rfl
        | true =>
          rcases hb with h | h | h
          · rw [h] at g2; cases g2
          · exact .inr ⟨rfl, h⟩
          · exact absurd ⟨by omega, by omega⟩ h
      clear hb
      rcases hb2 with g2 | ⟨g2, g3⟩
      · skip
        go_enter Tryz.func188, Tryz.ntmps188
        go_wp2_with (first | (go_at_call 110; refine (implId _ _).mono ?_; rw [g2]; rintro e w' ⟨rfl, rfl⟩) | (go_at_call 182; refine (implRegion _ _).mono ?_; rw [g3]; rintro e w' ⟨rfl, rfl⟩))
        go_ret
        exact ⟨rfl, (Below.refl _ _).alloc (Nat.le_refl _) _⟩
      · skip
        go_enter Tryz.func188, Tryz.ntmps188
        go_wp2_with (first | (go_at_call 110; refine (implId _ _).mono ?_; rw [g2]; rintro e w' ⟨rfl, rfl⟩) | (go_at_call 182; refine (implRegion _ _).mono ?_; rw [g3]; rintro e w' ⟨rfl, rfl⟩))
        go_ret
        exact ⟨rfl, (Below.refl _ _).alloc (Nat.le_refl _) _⟩
set_option maxHeartbeats 2000000 in
theorem implRecordOk_len (w : World) (k t r : Int) (a : Option Addr) (n cap : Nat) (xs : List S5) (hx : xs.length = n) (g2 : inB 1 1000000 t = true) (g3 : inB 0 5 r = true) (k1 : 1 ≤ k) (k2 : k ≤ 3) (hl : n < 1 ∨ 12 < n) :
    Calls Tryz.prog 188 #[.agg #[.int .i64 k, .int .i64 t, .int .i64 r, .slice a n cap]] w fun e w' => e = .returned (.bool (recB k t r xs)) ∧ Below w.heap.size w w' := by
  have hk : recB k t r xs = false := by
    rcases hl with h | h
    · simp [recB, hx, show ¬ 1 ≤ n by omega]
    · simp [recB, hx, show ¬ n ≤ 12 by omega]
  rw [hk]
  have k1' : decide (k < 1) = false := by simp; omega
  have k2' : decide (3 < k) = false := by simp; omega
  clear hk hx
  by_cases n1 : n < 1
  · have n1' : (n : Int) < 1 := by omega
    go_enter Tryz.func188, Tryz.ntmps188
    go_wp2_with (first | (go_at_call 110; refine (implId _ _).mono ?_; rw [g2]; rintro e w' ⟨rfl, rfl⟩) | (go_at_call 182; refine (implRegion _ _).mono ?_; rw [g3]; rintro e w' ⟨rfl, rfl⟩))
    go_ret
    exact ⟨rfl, (Below.refl _ _).alloc (Nat.le_refl _) _⟩
  · have n1' : decide ((n : Int) < 1) = false := by simp; omega
    have n2' : (12 : Int) < (n : Int) := by omega
    go_enter Tryz.func188, Tryz.ntmps188
    go_wp2_with (first | (go_at_call 110; refine (implId _ _).mono ?_; rw [g2]; rintro e w' ⟨rfl, rfl⟩) | (go_at_call 182; refine (implRegion _ _).mono ?_; rw [g3]; rintro e w' ⟨rfl, rfl⟩))
    go_ret
    exact ⟨rfl, (Below.refl _ _).alloc (Nat.le_refl _) _⟩
set_option maxHeartbeats 2000000 in
theorem implRecordOk_rest (w : World) (k t r : Int) (b off cap n : Nat) (xs : List S5) (hx : xs.length = n) (hn : n ≤ maxLen) (h1 : SetsAt w b off xs) (hb : b < w.heap.size) (g2 : inB 1 1000000 t = true) (g3 : inB 0 5 r = true) (k1 : 1 ≤ k) (k2 : k ≤ 3) (l1 : 1 ≤ n) (l2 : n ≤ 12) :
    Calls Tryz.prog 188 #[.agg #[.int .i64 k, .int .i64 t, .int .i64 r, .slice (some ⟨b, off, none⟩) n cap]] w fun e w' => e = .returned (.bool (recB k t r xs)) ∧ Below w.heap.size w w' := by
  have hk : recB k t r xs = (riseB xs && sameB r xs) := by simp [recB, hx, inB_yes k1 k2, g2, g3, l1, l2]
  rw [hk]
  have k1' : decide (k < 1) = false := by simp; omega
  have k2' : decide (3 < k) = false := by simp; omega
  have n1' : decide ((n : Int) < 1) = false := by simp; omega
  have n2' : decide ((12 : Int) < (n : Int)) = false := by simp; omega
  have bW : Below w.heap.size w (w.alloc (.cells #[.int .i64 k, .int .i64 t, .int .i64 r, .slice (some ⟨b, off, none⟩) n cap] 143)) := (Below.refl _ _).alloc (Nat.le_refl _) _
  have h1' := h1.below bW hb
  have hb' : b < (w.alloc (.cells #[.int .i64 k, .int .i64 t, .int .i64 r, .slice (some ⟨b, off, none⟩) n cap] 143)).heap.size := Nat.lt_of_lt_of_le hb bW.size
  have H1 : Hid (SetsAt (w.alloc (.cells #[.int .i64 k, .int .i64 t, .int .i64 r, .slice (some ⟨b, off, none⟩) n cap] 143)) b off xs ∧ xs.length = n ∧ Below w.heap.size w (w.alloc (.cells #[.int .i64 k, .int .i64 t, .int .i64 r, .slice (some ⟨b, off, none⟩) n cap] 143)) ∧ b < (w.alloc (.cells #[.int .i64 k, .int .i64 t, .int .i64 r, .slice (some ⟨b, off, none⟩) n cap] 143)).heap.size) := ⟨h1', hx, bW, hb'⟩
  clear hk h1 h1' hx bW hb'
  go_enter Tryz.func188, Tryz.ntmps188
  go_wp2_with (first | (go_at_call 110; refine (implId _ _).mono ?_; rw [g2]; rintro e w' ⟨rfl, rfl⟩) | (go_at_call 182; refine (implRegion _ _).mono ?_; rw [g3]; rintro e w' ⟨rfl, rfl⟩))
  obtain ⟨h1, hx, bW, hb'⟩ := H1.out
  refine (setsRise_some _ b off cap n xs hx hn h1 hb').mono ?_
  have e2 : (w.alloc (.cells #[.int .i64 k, .int .i64 t, .int .i64 r, .slice (some ⟨b, off, none⟩) n cap] 143)).cell? ⟨w.heap.size, 2, none⟩ = some (.int .i64 r) := by go_simp
  have e3 : (w.alloc (.cells #[.int .i64 k, .int .i64 t, .int .i64 r, .slice (some ⟨b, off, none⟩) n cap] 143)).cell? ⟨w.heap.size, 3, none⟩ = some (.slice (some ⟨b, off, none⟩) n cap) := by go_simp
  have hs : w.heap.size < (w.alloc (.cells #[.int .i64 k, .int .i64 t, .int .i64 r, .slice (some ⟨b, off, none⟩) n cap] 143)).heap.size := by simp
  generalize hW : w.alloc (.cells #[.int .i64 k, .int .i64 t, .int .i64 r, .slice (some ⟨b, off, none⟩) n cap] 143) = W at *
  clear hW H1
  rintro e w1 ⟨rfl, b1⟩
  have f2 := (b1.cell (p := ⟨w.heap.size, 2, none⟩) hs).trans e2
  have f3 := (b1.cell (p := ⟨w.heap.size, 3, none⟩) hs).trans e3
  have s1 := h1.below b1 hb'
  have H : Hid (SetsAt w1 b off xs ∧ xs.length = n) := ⟨s1, hx⟩
  clear s1 h1 hx e2 e3
  cases g6 : riseB xs with
  | false =>
    go_wp2
    go_ret
    exact ⟨by simp [g6], bW.trans (b1.mono bW.size)⟩
  | true =>
    go_wp2_with fail
    obtain ⟨s1, hx⟩ := H.out
    refine (containsFunc_some _ w.heap.size r b off cap n xs hx hn s1 (Nat.lt_of_lt_of_le hb' b1.size) f2 (Nat.lt_of_lt_of_le hs b1.size)).mono ?_
    clear s1 hx
    rintro e w2 ⟨rfl, b2⟩
    go_wp2
    go_ret
    exact ⟨ret_bool (by simp [g6]), bW.trans ((b1.trans (b2.mono b1.size)).mono bW.size)⟩
theorem implRecordOk_any (w : World) (k t r : Int) (a : Option Addr) (n cap : Nat) (xs : List S5) (hn : n ≤ maxLen) (hs : Sl w w.heap.size a n xs) :
    Calls Tryz.prog 188 #[.agg #[.int .i64 k, .int .i64 t, .int .i64 r, .slice a n cap]] w fun e w' => e = .returned (.bool (recB k t r xs)) ∧ Below w.heap.size w w' := by
  obtain ⟨h1, h2⟩ := hs
  by_cases hlow : inB 1 1000000 t = false ∨ inB 0 5 r = false ∨ ¬ (1 ≤ k ∧ k ≤ 3)
  · exact implRecordOk_low w k t r a n cap xs hlow
  · simp only [not_or, Bool.not_eq_false, Decidable.not_not] at hlow
    obtain ⟨g2, g3, k1, k2⟩ := hlow
    by_cases hl : n < 1 ∨ 12 < n
    · exact implRecordOk_len w k t r a n cap xs h1 g2 g3 k1 k2 hl
    · rcases h2 with rfl | ⟨b, off, rfl, hb, hx⟩
      · exact absurd (.inl (by omega)) hl
      · exact implRecordOk_rest w k t r b off cap n xs h1 hn hx hb g2 g3 k1 k2 (by omega) (by omega)
end Go.Proofs.YtdmpobegobfpjaaGreat