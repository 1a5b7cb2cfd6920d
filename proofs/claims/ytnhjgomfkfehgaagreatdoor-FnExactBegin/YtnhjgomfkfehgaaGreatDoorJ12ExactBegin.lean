/- BegD; BegP; DedO; DedP; SpcD; BegS; YTxNi; BegI; FaceB; BegJ; Opens; OpenCells: joined. -/
import Derived.Test.YtnhjgomfkfehgaaGreatDoorRows
import Derived.Test.YtnhjgomfkfehgaaGreatDoorJ10ExactBegin
import Derived.Test.YtnhjgomfkfehgaaGreatDoorJ11ExactBegin
import Derived.WalkKit
import Derived.WalkSpells
import Derived.WalkLawsBesides
import Derived.Below
import Derived.Lib.QuietBelow
import Derived.BigQuiet
import Derived.Deep.CutRange
import Derived.LaidEql
import Derived.Stop.Asserts
import Derived.RowKitTokens
import Derived.Deep.Upon
import Derived.Deep.RegionWith
import Derived.Test.YtnhjgomfkfehgaaGreatDoorJ8ExactBegin
import Derived.Test.YtnhjgomfkfehgaaGreatDoorJ5ExactBegin
import Derived.Defers
import Derived.Recover
import Derived.TacticsInMore
import Derived.Test.YtnhjgomfkfehgaaGreatDoorJ2ExactBegin
import Derived.ProofKit
import Derived.OpenShut
import Derived.Deep.Slices
import Derived.Lib.SmallJoins
namespace Go.Proofs.YtnhjgomfkfehgaaGreatDoor
open Go.RowKit
open Go.Sort (grow)
def idB (k : C6) (y : Int) : Bool := inB 1 1000000 y && (decide (k.txs.length < 60) && (decide (k.txs.length = 0) || decide ((atT k.txs (k.txs.length - 1)).id < y)))
def hmB (k : C6) (h : Int) : Bool := decide (0 ≤ h) && (decide (h < (k.machines.length : Int)) && (atM k.machines h.toNat).alive)
def begC (k : C6) (y h : Int) : Int := if clusterB k = true then (if idB k y = true then (if hmB k h = true then 0 else 3) else 2) else 1
def pushTx (k : C6) (t : tx.T7) : C6 := ⟨k.config, k.clock, k.places, k.machines, k.txs ++ [t], k.lost⟩
def begK (k : C6) (y h : Int) : C6 := if begC k y h = 0 then pushTx k (tx.newT y h) else leftC k
set_option maxRecDepth 100000 in
set_option maxHeartbeats 2000000 in
theorem canBegin_any (w : World) (a3 : Option Addr) (c3 : Nat) (k : C6) (y : Int) (h60 : k.txs.length ≤ 60) (h : KTk.RdS w a3 k.txs) :
    Calls Tryz.prog 92 #[.slice a3 k.txs.length c3, .int .i64 y] w fun e w' => e = .returned (.bool (idB k y)) ∧ w' = w := by
  cases h1 : inB 1 1000000 y with
  | false =>
    have e1 := hidOf (show idB k y = false by simp [idB, h1])
    clear h
    go_enter Tryz.func92, Tryz.ntmps92
    go_wp2_with (go_at_call 152; refine (tx.implId _ _).mono ?_; rintro e w' ⟨rfl, rfl⟩)
    go_ret
    exact ⟨by rw [e1.out]; rfl, rfl⟩
  | true =>
    by_cases h2 : k.txs.length < 60
    · by_cases h3 : k.txs.length = 0
      · have e1 := hidOf (show idB k y = true by simp [idB, h1, h3])
        rw [h3]
        clear h h2 h3 h60
        go_enter Tryz.func92, Tryz.ntmps92
        go_wp2_with (go_at_call 152; refine (tx.implId _ _).mono ?_; rintro e w' ⟨rfl, rfl⟩)
        go_ret
        exact ⟨by rw [e1.out]; rfl, rfl⟩
      · obtain ⟨n, hn⟩ : ∃ n, k.txs.length = n + 1 := ⟨k.txs.length - 1, by omega⟩
        have e1 := hidOf (show idB k y = decide ((atT k.txs n).id < y) by simp [idB, h1, hn]; intro _; omega)
        have hi : n < k.txs.length := by omega
        rcases h with e0 | ⟨b, off, rfl, hb, hrd⟩
        · rw [e0] at hi; simp at hi
        obtain ⟨⟨t0, t1, t2, t3⟩, hel, -⟩ := hrd n _ (atT_of hi)
        have g0 : w.cell? ⟨b, off + n * 7, none⟩ = some (.int .i64 (atT k.txs n).id) := hel 0 _ rfl
        have d1 : decide ((k.txs.length : Int) < 60) = true := by simp; omega
        have d2 : ((k.txs.length : Int) == 0) = false := beq_eq_false_iff_ne.2 (by omega)
        have d3 : (k.txs.length : Int) - 1 = (n : Int) := by omega
        have jn : (n : Int) < (k.txs.length : Int) := by omega
        have w64 : wrap64 (n : Int) = (n : Int) := by simp only [wrap64]; omega
        clear hrd hel hn hi h2 h3 h60 hb
        go_enter Tryz.func92, Tryz.ntmps92
        go_wp2_with (go_at_call 152; refine (tx.implId _ _).mono ?_; rintro e w' ⟨rfl, rfl⟩)
        go_ret
        exact ⟨by rw [e1.out]; rfl, rfl⟩
    · have e1 := hidOf (show idB k y = false by simp [idB, h1]; omega)
      obtain h60 : k.txs.length = 60 := by omega
      rw [h60]
      clear h h2
      go_enter Tryz.func92, Tryz.ntmps92
      go_wp2_with (go_at_call 152; refine (tx.implId _ _).mono ?_; rintro e w' ⟨rfl, rfl⟩)
      go_ret
      exact ⟨by rw [e1.out]; rfl, rfl⟩
set_option maxHeartbeats 1000000 in
theorem homeLivesI_any (w : World) (a1 : Option Addr) (c1 : Nat) (a2 : Option Addr) (c2 : Nat) (a3 : Option Addr) (c3 : Nat) (k : C6) (h : Int) (hr : KCl.Rd w a1 c1 a2 c2 a3 c3 k) : Calls Tryz.prog 94 #[.agg #[.int .i64 k.config, .int .i64 k.clock, .slice a1 k.places.length c1, .slice a2 k.machines.length c2, .slice a3 k.txs.length c3, .bool k.lost], .int .i64 h] w fun e w' => e = .returned (.bool (hmB k h)) ∧ Below w.heap.size w w' := by
  by_cases h0 : 0 ≤ h
  · by_cases h1 : h < (k.machines.length : Int)
    · obtain ⟨i, rfl⟩ : ∃ i : Nat, h = (i : Int) := ⟨h.toNat, by omega⟩
      have e1 : hmB k (i : Int) = (atM k.machines i).alive := by simp [hmB]; intro _; omega
      rw [e1]
      exact homeLives_any w a1 c1 a2 c2 a3 c3 k i (by omega) hr
    · have e1 := hidOf (show hmB k h = false by simp [hmB]; omega)
      obtain ⟨W, hW⟩ : ∃ Y, Y = w.alloc (.cells #[.int .i64 k.config, .int .i64 k.clock, .slice a1 k.places.length c1, .slice a2 k.machines.length c2, .slice a3 k.txs.length c3, .bool k.lost] 32) := ⟨_, rfl⟩
      have bW : Hid (Below w.heap.size w W) := by rw [hW]; exact (Below.refl _ _).alloc (Nat.le_refl _) _
      have p3 : W.cell? ⟨w.heap.size, 3, none⟩ = some (.slice a2 k.machines.length c2) := by rw [hW]; go_simp
      have d0 : decide (0 ≤ h) = true := by simpa using h0
      have d1 : decide (h < (k.machines.length : Int)) = false := by simpa using h1
      rw [hW] at p3
      clear h0 h1 hr
      go_enter Tryz.func94, Tryz.ntmps94
      go_wp2
      rw [← hW]
      go_ret
      exact ⟨by rw [e1.out]; rfl, bW.out⟩
  · have e1 := hidOf (show hmB k h = false by simp [hmB]; omega)
    have d0 : decide (0 ≤ h) = false := by simpa using h0
    have bW : Hid (Below w.heap.size w (w.alloc (.cells #[.int .i64 k.config, .int .i64 k.clock, .slice a1 k.places.length c1, .slice a2 k.machines.length c2, .slice a3 k.txs.length c3, .bool k.lost] 32))) := (Below.refl _ _).alloc (Nat.le_refl _) _
    clear h0 hr
    go_enter Tryz.func94, Tryz.ntmps94
    go_wp2
    go_ret
    exact ⟨by rw [e1.out]; rfl, bW.out⟩
theorem CL3.fresh {base p : Nat} {X : World} {vp vm vt : Value} {ps : List ((Nat × Nat) × List Int)} {gp : Nat → Nat → Prop} {ms : List (MV × M4)} {gm : Nat → Nat → Prop} {ts : List (tx.TV × tx.T7)} {gt : Nat → Nat → Prop} (h : CL3 base p X vp vm vt ps gp ms gm ts gt) : CL3 base X.heap.size X vp vm vt ps gp ms gm ts gt :=
  ⟨h.P, h.M, h.T, h.pm, h.pt, h.mt, fun _ hq => Nat.ne_of_lt (h.P.blocks hq).2, fun _ hq => Nat.ne_of_lt (h.M.blocks hq).2, fun _ hq => Nat.ne_of_lt (h.T.blocks hq).2⟩
theorem CL3.base_le {base p : Nat} {X : World} {vp vm vt : Value} {ps : List ((Nat × Nat) × List Int)} {gp : Nat → Nat → Prop} {ms : List (MV × M4)} {gm : Nat → Nat → Prop} {ts : List (tx.TV × tx.T7)} {gt : Nat → Nat → Prop} {k : C6} (h : CL3 base p X vp vm vt ps gp ms gm ts gt) (hk : clusterB k = true) (e1 : ps.map (·.2) = k.places) : base ≤ X.heap.size := by
  simp only [clusterB, placesB, Bool.and_eq_true, decide_eq_true_eq] at hk
  have h1 : 1 ≤ k.places.length := by omega
  rw [← e1, List.length_map] at h1
  obtain ⟨b, cap', ev, hB, hlt⟩ := World.ownsRow.form h.P.row h1
  omega
theorem clPush {x X W : World} {base p e : Nat} {b1 : Option Addr} {d1 : Nat} {b2 : Option Addr} {d2 : Nat} {b3 : Option Addr} {d3 : Nat} {k : C6} {ps : List ((Nat × Nat) × List Int)} {gp : Nat → Nat → Prop} {ms : List (MV × M4)} {gm : Nat → Nat → Prop} {ts : List (tx.TV × tx.T7)} {gt : Nat → Nat → Prop}
    (hr : CL3 base p x (.slice b1 k.places.length d1) (.slice b2 k.machines.length d2) (.slice b3 k.txs.length d3) ps gp ms gm ts gt) (e1 : ps.map (·.2) = k.places) (e2 : ms.map (·.2) = k.machines) (e3 : ts.map (·.2) = k.txs) (h60 : k.txs.length ≤ 60) (hb : base ≤ x.heap.size) (hx : x.heap.size < X.heap.size) (bX : Below x.heap.size x X) (bW : Below X.heap.size X W) (t : tx.T7) (u0 : Option Addr) (u1 : Nat) (u2 : Option Addr) (u3 : Nat) (Q : Nat → Prop) (xW : Bx W e (KTk.cells ⟨u0, u1, u2, u3⟩ t)) (ho : KT.Ow W X.heap.size u0 u1 u2 u3 t Q) :
    ∃ a' c' Y, (Builtin.append_ #[30, 30] 30 #[.slice b3 k.txs.length d3, .slice (some ⟨e, 0, none⟩) 1 1]).run Tryz.prog W = .ok (.slice a' (k.txs.length + 1) c') Y ∧ (∀ q, q < W.heap.size → q < base ∨ x.heap.size ≤ q → Y.heap[q]? = W.heap[q]?) ∧ W.heap.size ≤ Y.heap.size ∧ (∀ w : World, Below w.heap.size w W → w.heap.size ≤ base → Below w.heap.size w Y) ∧ ∃ P, (∀ q, P q → q ≠ x.heap.size) ∧ KCl.Ow (Y.setCell ⟨x.heap.size, 4, none⟩ (.slice a' (k.txs.length + 1) c')) base b1 d1 b2 d2 a' c' (pushTx k t) P := by
  have hl : ts.length = k.txs.length := by rw [← e3]; simp
  have hX : CL3 base x.heap.size X (.slice b1 k.places.length d1) (.slice b2 k.machines.length d2) (.slice b3 k.txs.length d3) ps gp ms gm ts gt := hr.fresh.later bX
  obtain ⟨v', Y, hrun, hc, hg, hv⟩ := hX.pushT bW (by omega) hx (⟨u0, u1, u2, u3⟩ : tx.TV) t Q e (by omega) 30 xW.1 ho
  have hold : ∀ y, (Value.slice b3 k.txs.length d3).ownBlock = some y → base ≤ y ∧ y < x.heap.size := fun y hy => hr.T.blocks (.inl hy)
  obtain ⟨a', c', hv'⟩ := hc.T.form
  rw [List.length_append, hl] at hv'
  simp only [List.length_cons, List.length_nil, Nat.zero_add] at hv'
  subst hv'
  have hs := hc.set (o := 4) (u := .slice a' (k.txs.length + 1) c')
  have e3' : (ts ++ [((⟨u0, u1, u2, u3⟩ : tx.TV), t)]).map (·.2) = (pushTx k t).txs := by rw [List.map_append, e3]; rfl
  have how : KCl.Ow (Y.setCell ⟨x.heap.size, 4, none⟩ (.slice a' (k.txs.length + 1) c')) base b1 d1 b2 d2 a' c' (pushTx k t) _ := CL3.ow (k := pushTx k t) (by simpa [pushTx] using hs) e1 e2 e3'
  refine ⟨a', c', Y, hrun, fun q hq hq' => hg.block q hq (fun e' => by have := hold q e'.symm; omega), hg.size, fun w bw hw => bw.grown hg bw.size (fun q hq => by have := hold q hq; omega), _, fun q hq => ?_, how⟩
  rcases hq with hq | hq | hq
  · exact hs.pp q hq
  · exact hs.mp q hq
  · exact hs.tp q (by simpa [pushTx] using hq)
theorem RAns.lowB {w X w' : World} {k : C6} {n : Int} {e : Ending} (h : RAns X k n e w') (b : Below w.heap.size w X) : RAns w k n e w' := by
  obtain ⟨a1, c1, a2, c2, a3, c3, P, h1, h2, h3⟩ := h
  exact ⟨a1, c1, a2, c2, a3, c3, P, h1, h2.low b.size, bstep b h3⟩
theorem begC_ok {k : C6} {y h : Int} (hk : clusterB k = true) (hi : idB k y = true) (hh : hmB k h = true) : tx.newB y h = true ∧ begC k y h = 0 ∧ begK k y h = pushTx k (tx.newT y h) := by
  have h0 : begC k y h = 0 := by simp [begC, hk, hi, hh]
  refine ⟨?_, h0, by simp [begK, h0]⟩
  have hm := (CSm.of hk).m
  simp only [idB, hmB, Bool.and_eq_true, decide_eq_true_eq] at hi hh
  simp only [tx.newB, hi.1, Bool.true_and]
  rw [inB_iff]
  omega
theorem begC_id {k : C6} {y h : Int} (hk : clusterB k = true) (hi : idB k y = false) : begC k y h = 2 ∧ begK k y h = k := by
  have h0 : begC k y h = 2 := by simp [begC, hk, hi]
  exact ⟨h0, by simp [begK, h0, leftC, hk]⟩
theorem begC_home {k : C6} {y h : Int} (hk : clusterB k = true) (hi : idB k y = true) (hh : hmB k h = false) : begC k y h = 3 ∧ begK k y h = k := by
  have h0 : begC k y h = 3 := by simp [begC, hk, hi, hh]
  exact ⟨h0, by simp [begK, h0, leftC, hk]⟩
theorem begC_bad {k : C6} {y h : Int} (hk : clusterB k = false) : begC k y h = 1 ∧ begK k y h = zC := by
  have h0 : begC k y h = 1 := by simp [begC, hk]
  exact ⟨h0, by simp [begK, h0, leftC, hk]⟩
def DedAns (w : World) (a1 : Option Addr) (c1 : Nat) (a2 : Option Addr) (c2 : Nat) (a3 : Option Addr) (c3 : Nat) (k : C6) (y : Int) (n : Int) (e : Ending) (w' : World) : Prop :=
  (n ≠ 0 ∧ RAns w (leftC k) n e w') ∨ (n = 0 ∧ ∃ (d : Nat) (u0 : Option Addr) (u1 : Nat) (u2 : Option Addr) (u3 : Nat) (P : Nat → Prop), e = .returned (.pointer (some ⟨d, 0, none⟩)) ∧ Bx w' d [.int .i64 k.config, .int .i64 k.clock, .slice a1 k.places.length c1, .slice a2 k.machines.length c2, .slice a3 k.txs.length c3, .bool k.lost, .int .i64 (atId k.txs y), .int .i64 (txAt k y).id, .int .i64 (txAt k y).home, .int .i64 (txAt k y).phase, .int .i64 (txAt k y).count, .slice u0 (txAt k y).reads.length u1, .slice u2 (txAt k y).sets.length u3, .int .i64 (txAt k y).stamp] ∧ KT.Ow w' w.heap.size u0 u1 u2 u3 (txAt k y) P ∧ (∀ q, P q → q ≠ d) ∧ w.heap.size ≤ d ∧ Below w.heap.size w w')
theorem RAns.low {w X w' : World} {k : C6} {n : Int} {e : Ending} (h : RAns X k n e w') (b : Below w.heap.size w X) : RAns w k n e w' := by
  obtain ⟨a1, c1, a2, c2, a3, c3, P, h1, h2, h3⟩ := h
  exact ⟨a1, c1, a2, c2, a3, c3, P, h1, h2.low b.size, bstep b h3⟩
theorem Kd.Part.put {D V : Type} {K : Kd D V} {X : World} {B b n : Nat} {ys : List D} {g : Nat → Nat → Prop} (h : K.Part X B b n ys g) {i : Nat} (hi : i < ys.length) (hn : ys.length ≤ n) (v : V) (d : D) (Q : Nat → Prop) (ho : K.Ow X B v d Q) (hne : ∀ q, Q q → q ≠ b) (hap : ∀ j q, j < ys.length → g j q → ¬ Q q) :
    K.Part (putB X b (i * K.n) (K.cells v d)) B b n (ys.set i d) (fun j => if j = i then Q else g j) := by
  have hs : (putB X b (i * K.n) (K.cells v d)).heap.size = X.heap.size := putB_size _ _ _ _
  have hk : ∀ q, q ≠ b → (putB X b (i * K.n) (K.cells v d)).heap[q]? = X.heap[q]? := fun q hq => putB_block hq _ _ _
  have hc : i * K.n + K.n ≤ n * K.n := by rw [← Nat.succ_mul]; exact Nat.mul_le_mul_right _ (by omega)
  refine ⟨putB_room _ _ _ h.rm, fun j e hj => ?_, fun j q hj hq => ?_, fun j l q hj hl hjl h1 h2 => ?_⟩
  · by_cases hji : j = i
    · subst hji
      rw [List.getElem?_set_self hi] at hj
      obtain rfl := Option.some.inj hj
      refine ⟨v, fun t u hu => ?_, by simp only [if_pos]; exact K.keep ho (Nat.le_of_eq hs.symm) (fun q hq => hk q (hne q hq))⟩
      refine putB_cell _ _ _ (fun t h1 h2 => ?_) t u hu
      rw [K.len] at h2
      obtain ⟨z, hz, _⟩ := h.rm t (by omega)
      exact ⟨z, hz⟩
    · rw [List.getElem?_set_ne (fun e => hji e.symm)] at hj
      obtain ⟨v', h1, h2⟩ := h.at_ j e hj
      have hjl := (List.getElem?_eq_some_iff.1 hj).1
      refine ⟨v', fun t u hu => ?_, by simp only [if_neg hji]; exact K.keep h2 (Nat.le_of_eq hs.symm) (fun q hq => hk q (h.ne j q hjl hq))⟩
      have ht : t < K.n := by have := (List.getElem?_eq_some_iff.1 hu).1; rwa [K.len] at this
      refine (putB_out _ _ _ ?_).trans (h1 t u hu)
      rw [K.len]
      rcases Nat.lt_or_gt_of_ne hji with hlt | hgt
      · have := Nat.mul_le_mul_right K.n (Nat.succ_le_of_lt hlt); rw [Nat.succ_mul] at this; left; omega
      · have := Nat.mul_le_mul_right K.n (Nat.succ_le_of_lt hgt); rw [Nat.succ_mul] at this; right; omega
  · rw [List.length_set] at hj
    by_cases e : j = i
    · simp only [if_pos e] at hq; exact hne q hq
    · simp only [if_neg e] at hq; exact h.ne j q hj hq
  · rw [List.length_set] at hj hl
    by_cases e1 : j = i
    · by_cases e2 : l = i
      · omega
      · simp only [if_pos e1] at h1; simp only [if_neg e2] at h2; exact hap l q hl h2 h1
    · by_cases e2 : l = i
      · simp only [if_neg e1] at h1; simp only [if_pos e2] at h2; exact hap j q hj h1 h2
      · simp only [if_neg e1] at h1; simp only [if_neg e2] at h2; exact h.ap j l q hj hl hjl h1 h2
theorem KT.Ow.head {w : World} {B : Nat} {a : Option Addr} {b : Nat} {c : Option Addr} {d : Nat} {t : tx.T7} {P : Nat → Prop} (h : KT.Ow w B a b c d t P) (x1 x2 x3 x4 x5 : Int) : KT.Ow w B a b c d ⟨x1, x2, x3, x4, t.reads, t.sets, x5⟩ P := by
  obtain ⟨PR, PS, h1, h2, h3⟩ := h
  exact ⟨PR, PS, ⟨h1.r, h1.s, h1.rs, h1.rB, h1.sB⟩, h2, h3⟩
def setTx (k : C6) (i : Nat) (t : tx.T7) : C6 := ⟨k.config, k.clock, k.places, k.machines, k.txs.set i t, k.lost⟩
def runI (k : C6) (y : Int) : Int := if runC k y = 0 then (atId k.txs y : Int) else -1
set_option maxRecDepth 100000 in
set_option maxHeartbeats 2000000 in
theorem l9No_any (w : World) (a1 : Option Addr) (c1 : Nat) (a2 : Option Addr) (c2 : Nat) (a3 : Option Addr) (c3 : Nat) (k : C6) (n : Int) (h : KCl.Rd w a1 c1 a2 c2 a3 c3 k) (hk : clusterB k = true ∨ n = 1) (hn : clusterB k = true → n ≠ 1) :
    Calls Tryz.prog 30 #[.agg #[.int .i64 k.config, .int .i64 k.clock, .slice a1 k.places.length c1, .slice a2 k.machines.length c2, .slice a3 k.txs.length c3, .bool k.lost], .int .i64 n] w (FcAns w (leftC k) n) := by
  obtain ⟨W0, hW0⟩ : ∃ Y, Y = (w.alloc (.cells #[.int .i64 k.config, .int .i64 k.clock, .slice a1 k.places.length c1, .slice a2 k.machines.length c2, .slice a3 k.txs.length c3, .bool k.lost] 32)).alloc (.cells #[.int .i64 0, .int .i64 0, .slice none 0 0, .slice none 0 0, .slice none 0 0, .bool false] 32) := ⟨_, rfl⟩
  have b0 : Below w.heap.size w W0 := by rw [hW0]; exact ((Below.refl _ _).alloc (Nat.le_refl _) _).alloc (by simp) _
  have s0 : W0.heap.size = w.heap.size + 2 := by rw [hW0]; simp
  have x0 : Bx W0 w.heap.size [.int .i64 k.config, .int .i64 k.clock, .slice a1 k.places.length c1, .slice a2 k.machines.length c2, .slice a3 k.txs.length c3, .bool k.lost] := by
    have := (Bx.made w [.int .i64 k.config, .int .i64 k.clock, .slice a1 k.places.length c1, .slice a2 k.machines.length c2, .slice a3 k.txs.length c3, .bool k.lost] 32).later ((Below.refl _ _).alloc (Nat.le_refl _) (.cells #[.int .i64 0, .int .i64 0, .slice none 0 0, .slice none 0 0, .slice none 0 0, .bool false] 32))
    rw [hW0]; exact this
  have x1 : Bx W0 (w.heap.size + 1) [.int .i64 0, .int .i64 0, .slice none 0 0, .slice none 0 0, .slice none 0 0, .bool false] := by
    have h := Bx.made (w.alloc (.cells #[.int .i64 k.config, .int .i64 k.clock, .slice a1 k.places.length c1, .slice a2 k.machines.length c2, .slice a3 k.txs.length c3, .bool k.lost] 32)) [.int .i64 0, .int .i64 0, .slice none 0 0, .slice none 0 0, .slice none 0 0, .bool false] 32
    rw [show (w.alloc (.cells #[.int .i64 k.config, .int .i64 k.clock, .slice a1 k.places.length c1, .slice a2 k.machines.length c2, .slice a3 k.txs.length c3, .bool k.lost] 32)).heap.size = w.heap.size + 1 by simp] at h
    rw [hW0]; exact h
  have H : Hid (Below w.heap.size w W0 ∧ W0.heap.size = w.heap.size + 2 ∧ Bx W0 (w.heap.size + 1) [.int .i64 0, .int .i64 0, .slice none 0 0, .slice none 0 0, .slice none 0 0, .bool false]) := ⟨b0, s0, x1⟩
  cases hkb : clusterB k with
  | false =>
    obtain rfl : n = 1 := by rcases hk with h1 | h1; rw [h1] at hkb; cases hkb; exact h1
    have hleft : leftC k = zC := by simp [leftC, hkb]
    have HL := hidOf hleft
    have r0 := x1.1 0 _ rfl
    have r1 := x1.1 1 _ rfl
    have r2 := x1.1 2 _ rfl
    have r3 := x1.1 3 _ rfl
    have r4 := x1.1 4 _ rfl
    have r5 := x1.1 5 _ rfl
    have f0 := x1.2.1 0
    have f1 := x1.2.1 1
    have f2 := x1.2.1 2
    have f3 := x1.2.1 3
    have f4 := x1.2.1 4
    have f5 := x1.2.1 5
    have q0 := r0
    have q1 := r1
    have q2 := r2
    have q3 := r3
    have q4 := r4
    have q5 := r5
    rw [hW0] at r0 r1 r2 r3 r4 r5 f0 f1 f2 f3 f4 f5
    clear b0 s0 x0 x1 h hk hn hleft hkb
    go_enter Tryz.func30, Tryz.ntmps30
    go_wp2
    rw [← hW0]
    refine bodyPost_ret (v := .tuple #[.agg #[.int .i64 0, .int .i64 0, .slice none 0 0, .slice none 0 0, .slice none 0 0, .bool false], .int .i64 1]) (by simp [results, Tryz.results30, go_sem, q0, q1, q2, q3, q4, q5]) rfl ?_
    rw [HL.out]
    refine ⟨none, 0, none, 0, none, 0, fun _ => False, rfl, zC_ow _ _, ?_⟩
    exact H.out.1
  | true =>
    have hne := hn hkb
    have hleft : leftC k = k := by simp [leftC, hkb]
    have HL := hidOf hleft
    have hb : (n == 1) = false := by simpa using hne
    have hc := l8Copy_any W0 a1 c1 a2 c2 a3 c3 k hkb (h.later b0)
    have p0 := x0.1 0 _ rfl
    have p1 := x0.1 1 _ rfl
    have p2 := x0.1 2 _ rfl
    have p3 := x0.1 3 _ rfl
    have p4 := x0.1 4 _ rfl
    have p5 := x0.1 5 _ rfl
    rw [hW0] at p0 p1 p2 p3 p4 p5
    clear b0 s0 x0 x1 h hk hn hleft hkb hne
    go_enter Tryz.func30, Tryz.ntmps30
    go_wp2_with fail
    rw [← hW0]
    clear hW0 p0 p1 p2 p3 p4 p5
    refine hc.mono ?_
    clear hc
    rintro e w1 ⟨b1, d1, b2, d2, b3, d3, ps, gp, ms, gm, ts, gt, rfl, hr, e1, e2, e3, bl⟩
    obtain ⟨h1, h2, h3⟩ := H.out
    have y0 := h3.later bl
    have r0 := y0.1 0 _ rfl
    have r1 := y0.1 1 _ rfl
    have r2 := y0.1 2 _ rfl
    have r3 := y0.1 3 _ rfl
    have r4 := y0.1 4 _ rfl
    have r5 := y0.1 5 _ rfl
    have f0 := y0.2.1 0
    have f1 := y0.2.1 1
    have f2 := y0.2.1 2
    have f3 := y0.2.1 3
    have f4 := y0.2.1 4
    have f5 := y0.2.1 5
    have KE : Hid (KCl.Ow w1 (W0.heap.size + 3) b1 d1 b2 d2 b3 d3 k (fun q => Kd.blk (.slice b1 k.places.length d1) ps gp q ∨ Kd.blk (.slice b2 k.machines.length d2) ms gm q ∨ Kd.blk (.slice b3 k.txs.length d3) ts gt q) ∧ Below w.heap.size w w1 ∧ W0.heap.size = w.heap.size + 2) := ⟨hr.ow e1 e2 e3, bstep h1 bl, h2⟩
    clear hr e1 e2 e3 bl y0 h1 h2 h3 H
    go_wp2
    refine bodyPost_ret (v := .tuple #[.agg #[.int .i64 k.config, .int .i64 k.clock, .slice b1 k.places.length d1, .slice b2 k.machines.length d2, .slice b3 k.txs.length d3, .bool k.lost], .int .i64 n]) (by simp [results, Tryz.results30, go_sem, r0, r1, r2, r3, r4, r5]) rfl ?_
    rw [HL.out]
    refine ⟨b1, d1, b2, d2, b3, d3, _, rfl, (KE.out.1.low (show w.heap.size ≤ _ by have := KE.out.2.2; omega)).keep (w' := putB w1 (w.heap.size + 1) 0 [.int .i64 k.config, .int .i64 k.clock, .slice b1 k.places.length d1, .slice b2 k.machines.length d2, .slice b3 k.txs.length d3, .bool k.lost]) (by rw [putB_size]; exact Nat.le_refl _) (fun q hq => putB_block (fun e => by have := (KE.out.1.of hq).1; have := KE.out.2.2; omega) _ _ _), ?_⟩
    exact putB_below (w := w) (by omega) [.int .i64 k.config, .int .i64 k.clock, .slice b1 k.places.length d1, .slice b2 k.machines.length d2, .slice b3 k.txs.length d3, .bool k.lost] w1 0 KE.out.2.1
theorem idB_no {k : C6} {y : Int} (h60 : k.txs.length ≤ 60) (h : idB k y = false) : inB 1 1000000 y = false ∨ (inB 1 1000000 y = true ∧ k.txs.length = 60) ∨ (inB 1 1000000 y = true ∧ ∃ n, n < 59 ∧ k.txs.length = n + 1 ∧ y ≤ (atT k.txs n).id) := by
  cases h1 : inB 1 1000000 y with
  | false => exact .inl rfl
  | true =>
    right
    by_cases h2 : k.txs.length = 60
    · exact .inl ⟨rfl, h2⟩
    · by_cases h3 : k.txs.length = 0
      · simp [idB, h1, h3] at h
      · refine .inr ⟨rfl, k.txs.length - 1, by omega, by omega, ?_⟩
        have : k.txs.length < 60 := by omega
        simp [idB, h1, h3, this] at h
        omega
theorem idB_yes {k : C6} {y : Int} (h : idB k y = true) : inB 1 1000000 y = true ∧ (k.txs.length = 0 ∨ ∃ n, n < 59 ∧ k.txs.length = n + 1 ∧ (atT k.txs n).id < y) := by
  simp only [idB, Bool.and_eq_true, Bool.or_eq_true, decide_eq_true_eq] at h
  refine ⟨h.1, ?_⟩
  rcases h.2.2 with h3 | h3
  · exact .inl h3
  · by_cases h4 : k.txs.length = 0
    · exact .inl h4
    · exact .inr ⟨k.txs.length - 1, by omega, by omega, h3⟩
theorem lastAt {w : World} {a : Option Addr} {ts : List tx.T7} {n : Nat} (h : KTk.RdS w a ts) (hn : ts.length = n + 1) : ∃ b off, a = some ⟨b, off, none⟩ ∧ w.cell? ⟨b, off + n * 7, none⟩ = some (.int .i64 (atT ts n).id) := by
  rcases h with e0 | ⟨b, off, rfl, hb, hrd⟩
  · rw [e0] at hn; simp at hn
  obtain ⟨⟨t0, t1, t2, t3⟩, hel, -⟩ := hrd n _ (atT_of (by omega))
  exact ⟨b, off, rfl, hel 0 _ rfl⟩
set_option maxRecDepth 100000 in
set_option maxHeartbeats 40000000 in
theorem specBegin_any (w : World) (a1 : Option Addr) (c1 : Nat) (a2 : Option Addr) (c2 : Nat) (a3 : Option Addr) (c3 : Nat) (k : C6) (y h : Int) (hl : KCl.L k) (hr : KCl.Rd w a1 c1 a2 c2 a3 c3 k) :
    Calls Tryz.prog 10 #[.agg #[.int .i64 k.config, .int .i64 k.clock, .slice a1 k.places.length c1, .slice a2 k.machines.length c2, .slice a3 k.txs.length c3, .bool k.lost], .int .i64 y, .int .i64 h] w (FcAns w (begK k y h) (begC k y h)) := by
  obtain ⟨W0, hW0⟩ : ∃ Y, Y = (w.alloc (.cells #[.int .i64 k.config, .int .i64 k.clock, .slice a1 k.places.length c1, .slice a2 k.machines.length c2, .slice a3 k.txs.length c3, .bool k.lost] 32)).alloc (.cells #[.int .i64 0, .int .i64 0, .slice none 0 0, .slice none 0 0, .slice none 0 0, .bool false] 32) := ⟨_, rfl⟩
  have b0 : Below w.heap.size w W0 := by rw [hW0]; exact ((Below.refl _ _).alloc (Nat.le_refl _) _).alloc (by simp) _
  have s0 : W0.heap.size = w.heap.size + 2 := by rw [hW0]; simp
  have x0 : Bx W0 w.heap.size [.int .i64 k.config, .int .i64 k.clock, .slice a1 k.places.length c1, .slice a2 k.machines.length c2, .slice a3 k.txs.length c3, .bool k.lost] := by
    have := (Bx.made w [.int .i64 k.config, .int .i64 k.clock, .slice a1 k.places.length c1, .slice a2 k.machines.length c2, .slice a3 k.txs.length c3, .bool k.lost] 32).later ((Below.refl _ _).alloc (Nat.le_refl _) (.cells #[.int .i64 0, .int .i64 0, .slice none 0 0, .slice none 0 0, .slice none 0 0, .bool false] 32))
    rw [hW0]; exact this
  have x1 : Bx W0 (w.heap.size + 1) [.int .i64 0, .int .i64 0, .slice none 0 0, .slice none 0 0, .slice none 0 0, .bool false] := by
    have h := Bx.made (w.alloc (.cells #[.int .i64 k.config, .int .i64 k.clock, .slice a1 k.places.length c1, .slice a2 k.machines.length c2, .slice a3 k.txs.length c3, .bool k.lost] 32)) [.int .i64 0, .int .i64 0, .slice none 0 0, .slice none 0 0, .slice none 0 0, .bool false] 32
    rw [show (w.alloc (.cells #[.int .i64 k.config, .int .i64 k.clock, .slice a1 k.places.length c1, .slice a2 k.machines.length c2, .slice a3 k.txs.length c3, .bool k.lost] 32)).heap.size = w.heap.size + 1 by simp] at h
    rw [hW0]; exact h
  have p0 := x0.1 0 _ rfl
  have p1 := x0.1 1 _ rfl
  have p2 := x0.1 2 _ rfl
  have p3 := x0.1 3 _ rfl
  have p4 := x0.1 4 _ rfl
  have p5 := x0.1 5 _ rfl
  have hc := specClusterOk_any W0 a1 c1 a2 c2 a3 c3 k hl (hr.later b0)
  have H : Hid (Below w.heap.size w W0 ∧ W0.heap.size = w.heap.size + 2 ∧ Bx W0 w.heap.size [.int .i64 k.config, .int .i64 k.clock, .slice a1 k.places.length c1, .slice a2 k.machines.length c2, .slice a3 k.txs.length c3, .bool k.lost] ∧ Bx W0 (w.heap.size + 1) [.int .i64 0, .int .i64 0, .slice none 0 0, .slice none 0 0, .slice none 0 0, .bool false] ∧ KCl.Rd W0 a1 c1 a2 c2 a3 c3 k) := ⟨b0, s0, x0, x1, hr.later b0⟩
  rw [hW0] at p0 p1 p2 p3 p4 p5
  clear b0 s0 x0 x1 hl hr
  go_enter Tryz.func10, Tryz.ntmps10
  go_wp2_with fail
  rw [← hW0]
  clear hW0 p0 p1 p2 p3 p4 p5
  refine hc.mono ?_
  clear hc
  rintro e w1 ⟨rfl, bl1⟩
  obtain ⟨k1, k2, k3, k4, k5⟩ := H.out
  have H1 : Hid (Below w.heap.size w w1 ∧ w.heap.size + 2 ≤ w1.heap.size ∧ Bx w1 w.heap.size [.int .i64 k.config, .int .i64 k.clock, .slice a1 k.places.length c1, .slice a2 k.machines.length c2, .slice a3 k.txs.length c3, .bool k.lost] ∧ Bx w1 (w.heap.size + 1) [.int .i64 0, .int .i64 0, .slice none 0 0, .slice none 0 0, .slice none 0 0, .bool false] ∧ KCl.Rd w1 a1 c1 a2 c2 a3 c3 k) := ⟨bstep k1 bl1, by have := bl1.size; omega, k3.later bl1, k4.later bl1, k5.later bl1⟩
  have p0 := H1.out.2.2.1.1 0 _ rfl
  have p1 := H1.out.2.2.1.1 1 _ rfl
  have p2 := H1.out.2.2.1.1 2 _ rfl
  have p3 := H1.out.2.2.1.1 3 _ rfl
  have p4 := H1.out.2.2.1.1 4 _ rfl
  have p5 := H1.out.2.2.1.1 5 _ rfl
  clear k1 k2 k3 k4 k5 bl1 H
  cases hk : clusterB k with
  | false =>
    obtain ⟨e1, e2⟩ := begC_bad (y := y) (h := h) hk
    have HX : Hid (begC k y h = 1 ∧ begK k y h = leftC k) := ⟨e1, by rw [e2]; simp [leftC, hk]⟩
    have hno := l9No_any w1 a1 c1 a2 c2 a3 c3 k 1 H1.out.2.2.2.2 (.inr rfl) (fun e => by rw [hk] at e; cases e)
    clear e1 e2 hk
    go_wp2_with fail
    refine hno.mono ?_
    clear hno
    rintro e w2 ⟨e1, g1, e2, g2, e3, g3, PP, rfl, how, b2⟩
    have y0 := H1.out.2.2.2.1.later b2
    have r0 := y0.1 0 _ rfl
    have r1 := y0.1 1 _ rfl
    have r2 := y0.1 2 _ rfl
    have r3 := y0.1 3 _ rfl
    have r4 := y0.1 4 _ rfl
    have r5 := y0.1 5 _ rfl
    have f0 := y0.2.1 0
    have f1 := y0.2.1 1
    have f2 := y0.2.1 2
    have f3 := y0.2.1 3
    have f4 := y0.2.1 4
    have f5 := y0.2.1 5
    have KE : Hid (KCl.Ow w2 w1.heap.size e1 g1 e2 g2 e3 g3 (leftC k) PP ∧ Below w.heap.size w w2 ∧ w.heap.size + 2 ≤ w1.heap.size) := ⟨how, bstep H1.out.1 b2, H1.out.2.1⟩
    clear y0 how b2 H1 p0 p1 p2 p3 p4 p5
    generalize leftC k = N at *
    go_wp2
    refine bodyPost_ret (v := .tuple #[.agg #[.int .i64 N.config, .int .i64 N.clock, .slice e1 N.places.length g1, .slice e2 N.machines.length g2, .slice e3 N.txs.length g3, .bool N.lost], .int .i64 1]) (by simp [results, Tryz.results10, go_sem, r0, r1, r2, r3, r4, r5]) rfl ?_
    rw [HX.out.1, HX.out.2]
    refine ⟨e1, g1, e2, g2, e3, g3, PP, rfl, ?_, ?_⟩
    · exact (KE.out.1.low (show w.heap.size ≤ _ by have := KE.out.2.2; omega)).keep (w' := putB w2 (w.heap.size + 1) 0 [.int .i64 N.config, .int .i64 N.clock, .slice e1 N.places.length g1, .slice e2 N.machines.length g2, .slice e3 N.txs.length g3, .bool N.lost]) (by rw [putB_size]; exact Nat.le_refl _) (fun q hq => putB_block (fun e => by have := (KE.out.1.of hq).1; have := KE.out.2.2; omega) _ _ _)
    · exact putB_below (w := w) (by omega) [.int .i64 N.config, .int .i64 N.clock, .slice e1 N.places.length g1, .slice e2 N.machines.length g2, .slice e3 N.txs.length g3, .bool N.lost] w2 0 KE.out.2.1
  | true =>
    have HK := hidOf hk
    have h60 := (CSm.of hk).t
    have hleft := hidOf (show leftC k = k by simp [leftC, hk])
    clear hk
    cases hi : idB k y with
    | false =>
      obtain ⟨e1, e2⟩ := begC_id (h := h) HK.out hi
      have HX : Hid (begC k y h = 2 ∧ begK k y h = leftC k) := ⟨e1, by rw [e2, hleft.out]⟩
      have hno := l9No_any w1 a1 c1 a2 c2 a3 c3 k 2 H1.out.2.2.2.2 (.inl HK.out) (fun _ => by decide)
      have hway := idB_no h60 hi
      clear e1 e2 hi h60 HK hleft
      rcases hway with h1 | ⟨h1, h2⟩ | ⟨h1, n, hn, h2, h3⟩
      · go_wp2_with (first | (go_at_call 31; refine (tx.specId_e _ _).mono ?_; rintro e w' ⟨rfl, hw'⟩; subst w') | (go_at_call 32; refine (specIn _ _ _ _).mono ?_; rintro e w' ⟨rfl, hw'⟩; subst w'))
        refine hno.mono ?_
        clear hno
        rintro e w2 ⟨e1, g1, e2, g2, e3, g3, PP, rfl, how, b2⟩
        have y0 := H1.out.2.2.2.1.later b2
        have r0 := y0.1 0 _ rfl
        have r1 := y0.1 1 _ rfl
        have r2 := y0.1 2 _ rfl
        have r3 := y0.1 3 _ rfl
        have r4 := y0.1 4 _ rfl
        have r5 := y0.1 5 _ rfl
        have f0 := y0.2.1 0
        have f1 := y0.2.1 1
        have f2 := y0.2.1 2
        have f3 := y0.2.1 3
        have f4 := y0.2.1 4
        have f5 := y0.2.1 5
        have KE : Hid (KCl.Ow w2 w1.heap.size e1 g1 e2 g2 e3 g3 (leftC k) PP ∧ Below w.heap.size w w2 ∧ w.heap.size + 2 ≤ w1.heap.size) := ⟨how, bstep H1.out.1 b2, H1.out.2.1⟩
        clear y0 how b2 H1 p0 p1 p2 p3 p4 p5
        generalize leftC k = N at *
        go_wp2
        refine bodyPost_ret (v := .tuple #[.agg #[.int .i64 N.config, .int .i64 N.clock, .slice e1 N.places.length g1, .slice e2 N.machines.length g2, .slice e3 N.txs.length g3, .bool N.lost], .int .i64 2]) (by simp [results, Tryz.results10, go_sem, r0, r1, r2, r3, r4, r5]) rfl ?_
        rw [HX.out.1, HX.out.2]
        refine ⟨e1, g1, e2, g2, e3, g3, PP, rfl, ?_, ?_⟩
        · exact (KE.out.1.low (show w.heap.size ≤ _ by have := KE.out.2.2; omega)).keep (w' := putB w2 (w.heap.size + 1) 0 [.int .i64 N.config, .int .i64 N.clock, .slice e1 N.places.length g1, .slice e2 N.machines.length g2, .slice e3 N.txs.length g3, .bool N.lost]) (by rw [putB_size]; exact Nat.le_refl _) (fun q hq => putB_block (fun e => by have := (KE.out.1.of hq).1; have := KE.out.2.2; omega) _ _ _)
        · exact putB_below (w := w) (by omega) [.int .i64 N.config, .int .i64 N.clock, .slice e1 N.places.length g1, .slice e2 N.machines.length g2, .slice e3 N.txs.length g3, .bool N.lost] w2 0 KE.out.2.1
      · have dE : ((k.txs.length : Int) == 60) = true := by rw [h2]; rfl
        clear h2
        go_wp2_with (first | (go_at_call 31; refine (tx.specId_e _ _).mono ?_; rintro e w' ⟨rfl, hw'⟩; subst w') | (go_at_call 32; refine (specIn _ _ _ _).mono ?_; rintro e w' ⟨rfl, hw'⟩; subst w'))
        refine hno.mono ?_
        clear hno
        rintro e w2 ⟨e1, g1, e2, g2, e3, g3, PP, rfl, how, b2⟩
        have y0 := H1.out.2.2.2.1.later b2
        have r0 := y0.1 0 _ rfl
        have r1 := y0.1 1 _ rfl
        have r2 := y0.1 2 _ rfl
        have r3 := y0.1 3 _ rfl
        have r4 := y0.1 4 _ rfl
        have r5 := y0.1 5 _ rfl
        have f0 := y0.2.1 0
        have f1 := y0.2.1 1
        have f2 := y0.2.1 2
        have f3 := y0.2.1 3
        have f4 := y0.2.1 4
        have f5 := y0.2.1 5
        have KE : Hid (KCl.Ow w2 w1.heap.size e1 g1 e2 g2 e3 g3 (leftC k) PP ∧ Below w.heap.size w w2 ∧ w.heap.size + 2 ≤ w1.heap.size) := ⟨how, bstep H1.out.1 b2, H1.out.2.1⟩
        clear y0 how b2 H1 p0 p1 p2 p3 p4 p5
        generalize leftC k = N at *
        go_wp2
        refine bodyPost_ret (v := .tuple #[.agg #[.int .i64 N.config, .int .i64 N.clock, .slice e1 N.places.length g1, .slice e2 N.machines.length g2, .slice e3 N.txs.length g3, .bool N.lost], .int .i64 2]) (by simp [results, Tryz.results10, go_sem, r0, r1, r2, r3, r4, r5]) rfl ?_
        rw [HX.out.1, HX.out.2]
        refine ⟨e1, g1, e2, g2, e3, g3, PP, rfl, ?_, ?_⟩
        · exact (KE.out.1.low (show w.heap.size ≤ _ by have := KE.out.2.2; omega)).keep (w' := putB w2 (w.heap.size + 1) 0 [.int .i64 N.config, .int .i64 N.clock, .slice e1 N.places.length g1, .slice e2 N.machines.length g2, .slice e3 N.txs.length g3, .bool N.lost]) (by rw [putB_size]; exact Nat.le_refl _) (fun q hq => putB_block (fun e => by have := (KE.out.1.of hq).1; have := KE.out.2.2; omega) _ _ _)
        · exact putB_below (w := w) (by omega) [.int .i64 N.config, .int .i64 N.clock, .slice e1 N.places.length g1, .slice e2 N.machines.length g2, .slice e3 N.txs.length g3, .bool N.lost] w2 0 KE.out.2.1
      · obtain ⟨b, off, rfl, g0⟩ := lastAt H1.out.2.2.2.2.t h2
        have dE : ((k.txs.length : Int) == 60) = false := beq_eq_false_iff_ne.2 (by omega)
        have dG : decide (0 < (k.txs.length : Int)) = true := by simp; omega
        have dS : (k.txs.length : Int) - 1 = (n : Int) := by omega
        have jn : (n : Int) < (k.txs.length : Int) := by omega
        have w64 : wrap64 (n : Int) = (n : Int) := by simp only [wrap64]; omega
        have d4 : decide (y ≤ (atT k.txs n).id) = true := by simpa using h3
        clear h2 h3 hn
        go_wp2_with (first | (go_at_call 31; refine (tx.specId_e _ _).mono ?_; rintro e w' ⟨rfl, hw'⟩; subst w') | (go_at_call 32; refine (specIn _ _ _ _).mono ?_; rintro e w' ⟨rfl, hw'⟩; subst w'))
        refine hno.mono ?_
        clear hno
        rintro e w2 ⟨e1, g1, e2, g2, e3, g3, PP, rfl, how, b2⟩
        have y0 := H1.out.2.2.2.1.later b2
        have r0 := y0.1 0 _ rfl
        have r1 := y0.1 1 _ rfl
        have r2 := y0.1 2 _ rfl
        have r3 := y0.1 3 _ rfl
        have r4 := y0.1 4 _ rfl
        have r5 := y0.1 5 _ rfl
        have f0 := y0.2.1 0
        have f1 := y0.2.1 1
        have f2 := y0.2.1 2
        have f3 := y0.2.1 3
        have f4 := y0.2.1 4
        have f5 := y0.2.1 5
        have KE : Hid (KCl.Ow w2 w1.heap.size e1 g1 e2 g2 e3 g3 (leftC k) PP ∧ Below w.heap.size w w2 ∧ w.heap.size + 2 ≤ w1.heap.size) := ⟨how, bstep H1.out.1 b2, H1.out.2.1⟩
        clear y0 how b2 H1 p0 p1 p2 p3 p4 p5
        generalize leftC k = N at *
        go_wp2
        refine bodyPost_ret (v := .tuple #[.agg #[.int .i64 N.config, .int .i64 N.clock, .slice e1 N.places.length g1, .slice e2 N.machines.length g2, .slice e3 N.txs.length g3, .bool N.lost], .int .i64 2]) (by simp [results, Tryz.results10, go_sem, r0, r1, r2, r3, r4, r5]) rfl ?_
        rw [HX.out.1, HX.out.2]
        refine ⟨e1, g1, e2, g2, e3, g3, PP, rfl, ?_, ?_⟩
        · exact (KE.out.1.low (show w.heap.size ≤ _ by have := KE.out.2.2; omega)).keep (w' := putB w2 (w.heap.size + 1) 0 [.int .i64 N.config, .int .i64 N.clock, .slice e1 N.places.length g1, .slice e2 N.machines.length g2, .slice e3 N.txs.length g3, .bool N.lost]) (by rw [putB_size]; exact Nat.le_refl _) (fun q hq => putB_block (fun e => by have := (KE.out.1.of hq).1; have := KE.out.2.2; omega) _ _ _)
        · exact putB_below (w := w) (by omega) [.int .i64 N.config, .int .i64 N.clock, .slice e1 N.places.length g1, .slice e2 N.machines.length g2, .slice e3 N.txs.length g3, .bool N.lost] w2 0 KE.out.2.1
    | true =>
      have HI := hidOf hi
      obtain ⟨h1, hyes⟩ := idB_yes hi
      clear hi
      rcases hyes with h2 | ⟨n, hn, h2, h3⟩
      · rw [h2] at p4
        have w65 : wrap64 ((k.machines.length : Int) - 1) = (k.machines.length : Int) - 1 := by have := (CSm.of HK.out).m; simp only [wrap64]; omega
        by_cases hin : inB 0 ((k.machines.length : Int) - 1) h = true
        · obtain ⟨i, rfl⟩ : ∃ i : Nat, h = (i : Int) := ⟨h.toNat, by rw [inB_iff] at hin; omega⟩
          have hil : i < k.machines.length := by rw [inB_iff] at hin; omega
          rcases H1.out.2.2.2.2.m with e0 | ⟨mb, mo, rfl, hmb, hmrd⟩
          · rw [e0] at hil; simp at hil
          obtain ⟨⟨m0, m1, m2, m3, m4, m5⟩, hmel, -⟩ := hmrd i _ (atM_of hil)
          have ga : w1.cell? ⟨mb, mo + i * 4, none⟩ = some (.bool (atM k.machines i).alive) := hmel 0 _ rfl
          have jm : (i : Int) < (k.machines.length : Int) := by omega
          have hhm : hmB k (i : Int) = (atM k.machines i).alive := by simp [hmB]; intro _; omega
          clear hmrd hmel hmb
          cases hal : (atM k.machines i).alive with
          | false =>
            obtain ⟨e1, e2⟩ := begC_home HK.out HI.out (hhm.trans hal)
            have HX : Hid (begC k y (i : Int) = 3 ∧ begK k y (i : Int) = leftC k) := ⟨e1, by rw [e2, hleft.out]⟩
            have hno := l9No_any w1 a1 c1 (some ⟨mb, mo, none⟩) c2 a3 c3 k 3 H1.out.2.2.2.2 (.inl HK.out) (fun _ => by decide)
            rw [h2] at hno; clear h2
            rw [hal] at ga
            clear e1 e2 hhm hal
            go_wp2_with (first | (go_at_call 31; refine (tx.specId_e _ _).mono ?_; rintro e w' ⟨rfl, hw'⟩; subst w') | (go_at_call 32; refine (specIn _ _ _ _).mono ?_; rintro e w' ⟨rfl, hw'⟩; subst w'))
            refine hno.mono ?_
            clear hno
            rintro e w2 ⟨e1, g1, e2, g2, e3, g3, PP, rfl, how, b2⟩
            have y0 := H1.out.2.2.2.1.later b2
            have r0 := y0.1 0 _ rfl
            have r1 := y0.1 1 _ rfl
            have r2 := y0.1 2 _ rfl
            have r3 := y0.1 3 _ rfl
            have r4 := y0.1 4 _ rfl
            have r5 := y0.1 5 _ rfl
            have f0 := y0.2.1 0
            have f1 := y0.2.1 1
            have f2 := y0.2.1 2
            have f3 := y0.2.1 3
            have f4 := y0.2.1 4
            have f5 := y0.2.1 5
            have KE : Hid (KCl.Ow w2 w1.heap.size e1 g1 e2 g2 e3 g3 (leftC k) PP ∧ Below w.heap.size w w2 ∧ w.heap.size + 2 ≤ w1.heap.size) := ⟨how, bstep H1.out.1 b2, H1.out.2.1⟩
            clear y0 how b2 H1 p0 p1 p2 p3 p4 p5
            generalize leftC k = N at *
            go_wp2
            refine bodyPost_ret (v := .tuple #[.agg #[.int .i64 N.config, .int .i64 N.clock, .slice e1 N.places.length g1, .slice e2 N.machines.length g2, .slice e3 N.txs.length g3, .bool N.lost], .int .i64 3]) (by simp [results, Tryz.results10, go_sem, r0, r1, r2, r3, r4, r5]) rfl ?_
            rw [HX.out.1, HX.out.2]
            refine ⟨e1, g1, e2, g2, e3, g3, PP, rfl, ?_, ?_⟩
            · exact (KE.out.1.low (show w.heap.size ≤ _ by have := KE.out.2.2; omega)).keep (w' := putB w2 (w.heap.size + 1) 0 [.int .i64 N.config, .int .i64 N.clock, .slice e1 N.places.length g1, .slice e2 N.machines.length g2, .slice e3 N.txs.length g3, .bool N.lost]) (by rw [putB_size]; exact Nat.le_refl _) (fun q hq => putB_block (fun e => by have := (KE.out.1.of hq).1; have := KE.out.2.2; omega) _ _ _)
            · exact putB_below (w := w) (by omega) [.int .i64 N.config, .int .i64 N.clock, .slice e1 N.places.length g1, .slice e2 N.machines.length g2, .slice e3 N.txs.length g3, .bool N.lost] w2 0 KE.out.2.1
          | true =>
            obtain ⟨_, e1, e2⟩ := begC_ok HK.out HI.out (hhm.trans hal)
            have HX : Hid (begC k y (i : Int) = 0 ∧ begK k y (i : Int) = pushTx k (tx.newT y (i : Int))) := ⟨e1, e2⟩
            rw [hal] at ga
            clear e1 e2 hhm hal
            have hcp := l8Copy_any w1 a1 c1 (some ⟨mb, mo, none⟩) c2 a3 c3 k HK.out H1.out.2.2.2.2
            rw [h2] at hcp; clear h2
            go_wp2_with (first | (go_at_call 31; refine (tx.specId_e _ _).mono ?_; rintro e w' ⟨rfl, hw'⟩; subst w') | (go_at_call 32; refine (specIn _ _ _ _).mono ?_; rintro e w' ⟨rfl, hw'⟩; subst w'))
            generalize (i : Int) = h at *
            refine hcp.mono ?_
            clear hcp
            rintro e w2 ⟨b1, d1, b2, d2, b3, d3, ps, gp, ms, gm, ts, gt, rfl, hr, e1, e2, e3, bl⟩
            obtain ⟨W3, hW3⟩ : ∃ Y, Y = w2.alloc (.cells #[.int .i64 k.config, .int .i64 k.clock, .slice b1 k.places.length d1, .slice b2 k.machines.length d2, .slice b3 k.txs.length d3, .bool k.lost] 32) := ⟨_, rfl⟩
            have bb3 : Below w2.heap.size w2 W3 := by rw [hW3]; exact (Below.refl _ _).alloc (Nat.le_refl _) _
            have x3 : Bx W3 w2.heap.size [.int .i64 k.config, .int .i64 k.clock, .slice b1 k.places.length d1, .slice b2 k.machines.length d2, .slice b3 k.txs.length d3, .bool k.lost] := by rw [hW3]; exact Bx.made w2 [.int .i64 k.config, .int .i64 k.clock, .slice b1 k.places.length d1, .slice b2 k.machines.length d2, .slice b3 k.txs.length d3, .bool k.lost] _
            obtain ⟨k1, k2, k3, k4, k5⟩ := H1.out
            have H3 : Hid (Below w.heap.size w W3 ∧ w.heap.size + 2 ≤ w1.heap.size ∧ Bx W3 (w.heap.size + 1) [.int .i64 0, .int .i64 0, .slice none 0 0, .slice none 0 0, .slice none 0 0, .bool false] ∧ Bx W3 w2.heap.size [.int .i64 k.config, .int .i64 k.clock, .slice b1 k.places.length d1, .slice b2 k.machines.length d2, .slice b3 k.txs.length d3, .bool k.lost]) := ⟨bstep (bstep k1 bl) bb3, k2, (k4.later bl).later bb3, x3⟩
            have HC : Hid (CL3 (w1.heap.size + 3) (w1.heap.size + 2) w2 (.slice b1 k.places.length d1) (.slice b2 k.machines.length d2) (.slice b3 k.txs.length d3) ps gp ms gm ts gt ∧ ps.map (·.2) = k.places ∧ ms.map (·.2) = k.machines ∧ ts.map (·.2) = k.txs ∧ w1.heap.size + 3 ≤ w2.heap.size ∧ w2.heap.size < W3.heap.size ∧ Below w2.heap.size w2 W3) := ⟨hr, e1, e2, e3, hr.base_le HK.out e1, x3.2.2, bb3⟩
            have hnt := tx.specNewTx_any W3 y h
            clear k1 k2 k3 k4 k5 bb3 x3 hr e1 e2 e3 bl H1 p0 p1 p2 p3 p4 p5 ga jm hil hin w65
            go_wp2_with fail
            rw [← hW3]
            clear hW3
            refine hnt.mono ?_
            clear hnt
            rintro e w4 ⟨ta, tc, th, td, PR, PS, rfl, hot, b4⟩
            obtain ⟨W5, hW5⟩ : ∃ Y, Y = w4.alloc (.cells #[.int .i64 (tx.newT y h).id, .int .i64 (tx.newT y h).home, .int .i64 (tx.newT y h).phase, .int .i64 (tx.newT y h).count, .slice ta (tx.newT y h).reads.length tc, .slice th (tx.newT y h).sets.length td, .int .i64 (tx.newT y h).stamp] 56) := ⟨_, rfl⟩
            have b45 : Below w4.heap.size w4 W5 := by rw [hW5]; exact (Below.refl _ _).alloc (Nat.le_refl _) _
            have x5 : Bx W5 w4.heap.size [.int .i64 (tx.newT y h).id, .int .i64 (tx.newT y h).home, .int .i64 (tx.newT y h).phase, .int .i64 (tx.newT y h).count, .slice ta (tx.newT y h).reads.length tc, .slice th (tx.newT y h).sets.length td, .int .i64 (tx.newT y h).stamp] := by rw [hW5]; exact Bx.made w4 [.int .i64 (tx.newT y h).id, .int .i64 (tx.newT y h).home, .int .i64 (tx.newT y h).phase, .int .i64 (tx.newT y h).count, .slice ta (tx.newT y h).reads.length tc, .slice th (tx.newT y h).sets.length td, .int .i64 (tx.newT y h).stamp] _
            obtain ⟨W7, hW7⟩ : ∃ Y, Y = W5.alloc (.cells #[.int .i64 (tx.newT y h).id, .int .i64 (tx.newT y h).home, .int .i64 (tx.newT y h).phase, .int .i64 (tx.newT y h).count, .slice ta (tx.newT y h).reads.length tc, .slice th (tx.newT y h).sets.length td, .int .i64 (tx.newT y h).stamp] 56) := ⟨_, rfl⟩
            have b7 : Below W5.heap.size W5 W7 := by rw [hW7]; exact (Below.refl _ _).alloc (Nat.le_refl _) _
            have x7 : Bx W7 W5.heap.size [.int .i64 (tx.newT y h).id, .int .i64 (tx.newT y h).home, .int .i64 (tx.newT y h).phase, .int .i64 (tx.newT y h).count, .slice ta (tx.newT y h).reads.length tc, .slice th (tx.newT y h).sets.length td, .int .i64 (tx.newT y h).stamp] := by rw [hW7]; exact Bx.made W5 [.int .i64 (tx.newT y h).id, .int .i64 (tx.newT y h).home, .int .i64 (tx.newT y h).phase, .int .i64 (tx.newT y h).count, .slice ta (tx.newT y h).reads.length tc, .slice th (tx.newT y h).sets.length td, .int .i64 (tx.newT y h).stamp] _
            have b37 : Below W3.heap.size W3 W7 := bstep (bstep b4 b45) b7
            obtain ⟨c1', c2', c3', c4', c5', c6', c7'⟩ := HC.out
            obtain ⟨a', c', Y, hrun, hfar, hsz, hbel, PP, hPP, hOW⟩ := clPush c1' c2' c3' c4' h60 c5' c6' c7' b37 (tx.newT y h) ta tc th td (tx.OfT PR PS) x7 ((KT.ow hot).later (bstep b45 b7))
            have y5 := H3.out.2.2.2.later (bstep b4 b45)
            have y7 := y5.later b7
            have yY : Bx Y w2.heap.size [.int .i64 k.config, .int .i64 k.clock, .slice b1 k.places.length d1, .slice b2 k.machines.length d2, .slice b3 k.txs.length d3, .bool k.lost] := y7.of_block (hfar _ y7.2.2 (.inr (Nat.le_refl _))) hsz
            have z7 := H3.out.2.2.1.later b37
            have hs1 := H3.out.2.1
            have zY : Bx Y (w.heap.size + 1) [.int .i64 0, .int .i64 0, .slice none 0 0, .slice none 0 0, .slice none 0 0, .bool false] := z7.of_block (hfar _ z7.2.2 (.inl (by omega))) hsz
            have bY : Below w.heap.size w Y := hbel w (bstep H3.out.1 b37) (by omega)
            obtain ⟨Z, hZ⟩ : ∃ Z, Z = Y.setCell ⟨w2.heap.size, 4, none⟩ (.slice a' (k.txs.length + 1) c') := ⟨_, rfl⟩
            have yZ : Bx Z w2.heap.size [.int .i64 k.config, .int .i64 k.clock, .slice b1 k.places.length d1, .slice b2 k.machines.length d2, .slice a' (k.txs.length + 1) c', .bool k.lost] := by rw [hZ]; exact yY.set (i := 4) (by simp) _
            have zZ : Bx Z (w.heap.size + 1) [.int .i64 0, .int .i64 0, .slice none 0 0, .slice none 0 0, .slice none 0 0, .bool false] := by rw [hZ]; exact zY.far (by omega) _
            have bZ : Below w.heap.size w Z := by rw [hZ]; exact bY.setCell (p := ⟨w2.heap.size, 4, none⟩) (by show w.heap.size ≤ w2.heap.size; omega) _
            rw [← hZ] at hOW
            have KE : Hid (KCl.Ow Z (w1.heap.size + 3) b1 d1 b2 d2 a' c' (pushTx k (tx.newT y h)) PP ∧ Below w.heap.size w Z ∧ w.heap.size + 2 ≤ w1.heap.size) := ⟨hOW, bZ, hs1⟩
            have t0 := x5.1 0 _ rfl
            have t1 := x5.1 1 _ rfl
            have t2 := x5.1 2 _ rfl
            have t3 := x5.1 3 _ rfl
            have t4 := x5.1 4 _ rfl
            have t5 := x5.1 5 _ rfl
            have t6 := x5.1 6 _ rfl
            have o4 := y5.1 4 _ rfl
            have v4 := yY.1 4 _ rfl
            have vf4 := yY.2.1 4
            have o'0 := yZ.1 0 _ rfl
            have o'1 := yZ.1 1 _ rfl
            have o'2 := yZ.1 2 _ rfl
            have o'3 := yZ.1 3 _ rfl
            have o'4 := yZ.1 4 _ rfl
            have o'5 := yZ.1 5 _ rfl
            have r0 := zZ.1 0 _ rfl
            have r1 := zZ.1 1 _ rfl
            have r2 := zZ.1 2 _ rfl
            have r3 := zZ.1 3 _ rfl
            have r4 := zZ.1 4 _ rfl
            have r5 := zZ.1 5 _ rfl
            have f0 := zZ.2.1 0
            have f1 := zZ.2.1 1
            have f2 := zZ.2.1 2
            have f3 := zZ.2.1 3
            have f4 := zZ.2.1 4
            have f5 := zZ.2.1 5
            rw [hZ] at o'0 o'1 o'2 o'3 o'4 o'5 r0 r1 r2 r3 r4 r5 f0 f1 f2 f3 f4 f5
            have hs5 : W5.heap.size = w4.heap.size + 1 := by rw [hW5]; simp
            rw [hW7, hs5] at hrun
            clear hs5
            rw [hW5] at hrun o4 t0 t1 t2 t3 t4 t5 t6
            clear hot b4 b45 x5 b7 x7 b37 c1' c2' c3' c4' c5' c6' c7' hfar hsz hbel hPP y5 y7 yY z7 zY bY yZ zZ bZ hOW H3 HC HK HI hs1 hW7 h60
            go_wp2_with (at_builtin; refine append_known _ rfl (.tmp 82) (.tmp 84) 30 rfl _ _ _ _ rfl rfl hrun ?_)
            rw [← hZ] at r0 r1 r2 r3 r4 r5 ⊢
            clear hZ
            refine bodyPost_ret (v := .tuple #[.agg #[.int .i64 k.config, .int .i64 k.clock, .slice b1 k.places.length d1, .slice b2 k.machines.length d2, .slice a' (k.txs.length + 1) c', .bool k.lost], .int .i64 0]) (by simp [results, Tryz.results10, go_sem, r0, r1, r2, r3, r4, r5]) rfl ?_
            rw [HX.out.1, HX.out.2]
            refine ⟨b1, d1, b2, d2, a', c', PP, by simp [pushTx], ?_, ?_⟩
            · exact (KE.out.1.low (by have := KE.out.2.2; omega)).keep (w' := putB Z (w.heap.size + 1) 0 [.int .i64 k.config, .int .i64 k.clock, .slice b1 k.places.length d1, .slice b2 k.machines.length d2, .slice a' (k.txs.length + 1) c', .bool k.lost]) (by rw [putB_size]; exact Nat.le_refl _) (fun q hq => putB_block (fun e => by have := (KE.out.1.of hq).1; have := KE.out.2.2; omega) _ _ _)
            · exact putB_below (w := w) (by omega) [.int .i64 k.config, .int .i64 k.clock, .slice b1 k.places.length d1, .slice b2 k.machines.length d2, .slice a' (k.txs.length + 1) c', .bool k.lost] Z 0 KE.out.2.1
        · have hh : hmB k h = false := by
            cases hh : hmB k h with
            | false => rfl
            | true =>
              exfalso; apply hin
              simp only [hmB, Bool.and_eq_true, decide_eq_true_eq] at hh
              rw [inB_iff]; omega
          have hin' : inB 0 ((k.machines.length : Int) - 1) h = false := by simpa using hin
          obtain ⟨e1, e2⟩ := begC_home HK.out HI.out hh
          have HX : Hid (begC k y h = 3 ∧ begK k y h = leftC k) := ⟨e1, by rw [e2, hleft.out]⟩
          have hno := l9No_any w1 a1 c1 a2 c2 a3 c3 k 3 H1.out.2.2.2.2 (.inl HK.out) (fun _ => by decide)
          rw [h2] at hno; clear h2
          clear e1 e2 hh hin
          go_wp2_with (first | (go_at_call 31; refine (tx.specId_e _ _).mono ?_; rintro e w' ⟨rfl, hw'⟩; subst w') | (go_at_call 32; refine (specIn _ _ _ _).mono ?_; rintro e w' ⟨rfl, hw'⟩; subst w'))
          refine hno.mono ?_
          clear hno
          rintro e w2 ⟨e1, g1, e2, g2, e3, g3, PP, rfl, how, b2⟩
          have y0 := H1.out.2.2.2.1.later b2
          have r0 := y0.1 0 _ rfl
          have r1 := y0.1 1 _ rfl
          have r2 := y0.1 2 _ rfl
          have r3 := y0.1 3 _ rfl
          have r4 := y0.1 4 _ rfl
          have r5 := y0.1 5 _ rfl
          have f0 := y0.2.1 0
          have f1 := y0.2.1 1
          have f2 := y0.2.1 2
          have f3 := y0.2.1 3
          have f4 := y0.2.1 4
          have f5 := y0.2.1 5
          have KE : Hid (KCl.Ow w2 w1.heap.size e1 g1 e2 g2 e3 g3 (leftC k) PP ∧ Below w.heap.size w w2 ∧ w.heap.size + 2 ≤ w1.heap.size) := ⟨how, bstep H1.out.1 b2, H1.out.2.1⟩
          clear y0 how b2 H1 p0 p1 p2 p3 p4 p5
          generalize leftC k = N at *
          go_wp2
          refine bodyPost_ret (v := .tuple #[.agg #[.int .i64 N.config, .int .i64 N.clock, .slice e1 N.places.length g1, .slice e2 N.machines.length g2, .slice e3 N.txs.length g3, .bool N.lost], .int .i64 3]) (by simp [results, Tryz.results10, go_sem, r0, r1, r2, r3, r4, r5]) rfl ?_
          rw [HX.out.1, HX.out.2]
          refine ⟨e1, g1, e2, g2, e3, g3, PP, rfl, ?_, ?_⟩
          · exact (KE.out.1.low (show w.heap.size ≤ _ by have := KE.out.2.2; omega)).keep (w' := putB w2 (w.heap.size + 1) 0 [.int .i64 N.config, .int .i64 N.clock, .slice e1 N.places.length g1, .slice e2 N.machines.length g2, .slice e3 N.txs.length g3, .bool N.lost]) (by rw [putB_size]; exact Nat.le_refl _) (fun q hq => putB_block (fun e => by have := (KE.out.1.of hq).1; have := KE.out.2.2; omega) _ _ _)
          · exact putB_below (w := w) (by omega) [.int .i64 N.config, .int .i64 N.clock, .slice e1 N.places.length g1, .slice e2 N.machines.length g2, .slice e3 N.txs.length g3, .bool N.lost] w2 0 KE.out.2.1
      · obtain ⟨b, off, rfl, g0⟩ := lastAt H1.out.2.2.2.2.t h2
        have dE : ((k.txs.length : Int) == 60) = false := beq_eq_false_iff_ne.2 (by omega)
        have dG : decide (0 < (k.txs.length : Int)) = true := by simp; omega
        have dS : (k.txs.length : Int) - 1 = (n : Int) := by omega
        have jn : (n : Int) < (k.txs.length : Int) := by omega
        have w64 : wrap64 (n : Int) = (n : Int) := by simp only [wrap64]; omega
        have d4 : decide (y ≤ (atT k.txs n).id) = false := by simp; omega
        clear h2 h3 hn
        have w65 : wrap64 ((k.machines.length : Int) - 1) = (k.machines.length : Int) - 1 := by have := (CSm.of HK.out).m; simp only [wrap64]; omega
        by_cases hin : inB 0 ((k.machines.length : Int) - 1) h = true
        · obtain ⟨i, rfl⟩ : ∃ i : Nat, h = (i : Int) := ⟨h.toNat, by rw [inB_iff] at hin; omega⟩
          have hil : i < k.machines.length := by rw [inB_iff] at hin; omega
          rcases H1.out.2.2.2.2.m with e0 | ⟨mb, mo, rfl, hmb, hmrd⟩
          · rw [e0] at hil; simp at hil
          obtain ⟨⟨m0, m1, m2, m3, m4, m5⟩, hmel, -⟩ := hmrd i _ (atM_of hil)
          have ga : w1.cell? ⟨mb, mo + i * 4, none⟩ = some (.bool (atM k.machines i).alive) := hmel 0 _ rfl
          have jm : (i : Int) < (k.machines.length : Int) := by omega
          have hhm : hmB k (i : Int) = (atM k.machines i).alive := by simp [hmB]; intro _; omega
          clear hmrd hmel hmb
          cases hal : (atM k.machines i).alive with
          | false =>
            obtain ⟨e1, e2⟩ := begC_home HK.out HI.out (hhm.trans hal)
            have HX : Hid (begC k y (i : Int) = 3 ∧ begK k y (i : Int) = leftC k) := ⟨e1, by rw [e2, hleft.out]⟩
            have hno := l9No_any w1 a1 c1 (some ⟨mb, mo, none⟩) c2 (some ⟨b, off, none⟩) c3 k 3 H1.out.2.2.2.2 (.inl HK.out) (fun _ => by decide)
            rw [hal] at ga
            clear e1 e2 hhm hal
            go_wp2_with (first | (go_at_call 31; refine (tx.specId_e _ _).mono ?_; rintro e w' ⟨rfl, hw'⟩; subst w') | (go_at_call 32; refine (specIn _ _ _ _).mono ?_; rintro e w' ⟨rfl, hw'⟩; subst w'))
            refine hno.mono ?_
            clear hno
            rintro e w2 ⟨e1, g1, e2, g2, e3, g3, PP, rfl, how, b2⟩
            have y0 := H1.out.2.2.2.1.later b2
            have r0 := y0.1 0 _ rfl
            have r1 := y0.1 1 _ rfl
            have r2 := y0.1 2 _ rfl
            have r3 := y0.1 3 _ rfl
            have r4 := y0.1 4 _ rfl
            have r5 := y0.1 5 _ rfl
            have f0 := y0.2.1 0
            have f1 := y0.2.1 1
            have f2 := y0.2.1 2
            have f3 := y0.2.1 3
            have f4 := y0.2.1 4
            have f5 := y0.2.1 5
            have KE : Hid (KCl.Ow w2 w1.heap.size e1 g1 e2 g2 e3 g3 (leftC k) PP ∧ Below w.heap.size w w2 ∧ w.heap.size + 2 ≤ w1.heap.size) := ⟨how, bstep H1.out.1 b2, H1.out.2.1⟩
            clear y0 how b2 H1 p0 p1 p2 p3 p4 p5
            generalize leftC k = N at *
            go_wp2
            refine bodyPost_ret (v := .tuple #[.agg #[.int .i64 N.config, .int .i64 N.clock, .slice e1 N.places.length g1, .slice e2 N.machines.length g2, .slice e3 N.txs.length g3, .bool N.lost], .int .i64 3]) (by simp [results, Tryz.results10, go_sem, r0, r1, r2, r3, r4, r5]) rfl ?_
            rw [HX.out.1, HX.out.2]
            refine ⟨e1, g1, e2, g2, e3, g3, PP, rfl, ?_, ?_⟩
            · exact (KE.out.1.low (show w.heap.size ≤ _ by have := KE.out.2.2; omega)).keep (w' := putB w2 (w.heap.size + 1) 0 [.int .i64 N.config, .int .i64 N.clock, .slice e1 N.places.length g1, .slice e2 N.machines.length g2, .slice e3 N.txs.length g3, .bool N.lost]) (by rw [putB_size]; exact Nat.le_refl _) (fun q hq => putB_block (fun e => by have := (KE.out.1.of hq).1; have := KE.out.2.2; omega) _ _ _)
            · exact putB_below (w := w) (by omega) [.int .i64 N.config, .int .i64 N.clock, .slice e1 N.places.length g1, .slice e2 N.machines.length g2, .slice e3 N.txs.length g3, .bool N.lost] w2 0 KE.out.2.1
          | true =>
            obtain ⟨_, e1, e2⟩ := begC_ok HK.out HI.out (hhm.trans hal)
            have HX : Hid (begC k y (i : Int) = 0 ∧ begK k y (i : Int) = pushTx k (tx.newT y (i : Int))) := ⟨e1, e2⟩
            rw [hal] at ga
            clear e1 e2 hhm hal
            have hcp := l8Copy_any w1 a1 c1 (some ⟨mb, mo, none⟩) c2 (some ⟨b, off, none⟩) c3 k HK.out H1.out.2.2.2.2
            go_wp2_with (first | (go_at_call 31; refine (tx.specId_e _ _).mono ?_; rintro e w' ⟨rfl, hw'⟩; subst w') | (go_at_call 32; refine (specIn _ _ _ _).mono ?_; rintro e w' ⟨rfl, hw'⟩; subst w'))
            generalize (i : Int) = h at *
            refine hcp.mono ?_
            clear hcp
            rintro e w2 ⟨b1, d1, b2, d2, b3, d3, ps, gp, ms, gm, ts, gt, rfl, hr, e1, e2, e3, bl⟩
            obtain ⟨W3, hW3⟩ : ∃ Y, Y = w2.alloc (.cells #[.int .i64 k.config, .int .i64 k.clock, .slice b1 k.places.length d1, .slice b2 k.machines.length d2, .slice b3 k.txs.length d3, .bool k.lost] 32) := ⟨_, rfl⟩
            have bb3 : Below w2.heap.size w2 W3 := by rw [hW3]; exact (Below.refl _ _).alloc (Nat.le_refl _) _
            have x3 : Bx W3 w2.heap.size [.int .i64 k.config, .int .i64 k.clock, .slice b1 k.places.length d1, .slice b2 k.machines.length d2, .slice b3 k.txs.length d3, .bool k.lost] := by rw [hW3]; exact Bx.made w2 [.int .i64 k.config, .int .i64 k.clock, .slice b1 k.places.length d1, .slice b2 k.machines.length d2, .slice b3 k.txs.length d3, .bool k.lost] _
            obtain ⟨k1, k2, k3, k4, k5⟩ := H1.out
            have H3 : Hid (Below w.heap.size w W3 ∧ w.heap.size + 2 ≤ w1.heap.size ∧ Bx W3 (w.heap.size + 1) [.int .i64 0, .int .i64 0, .slice none 0 0, .slice none 0 0, .slice none 0 0, .bool false] ∧ Bx W3 w2.heap.size [.int .i64 k.config, .int .i64 k.clock, .slice b1 k.places.length d1, .slice b2 k.machines.length d2, .slice b3 k.txs.length d3, .bool k.lost]) := ⟨bstep (bstep k1 bl) bb3, k2, (k4.later bl).later bb3, x3⟩
            have HC : Hid (CL3 (w1.heap.size + 3) (w1.heap.size + 2) w2 (.slice b1 k.places.length d1) (.slice b2 k.machines.length d2) (.slice b3 k.txs.length d3) ps gp ms gm ts gt ∧ ps.map (·.2) = k.places ∧ ms.map (·.2) = k.machines ∧ ts.map (·.2) = k.txs ∧ w1.heap.size + 3 ≤ w2.heap.size ∧ w2.heap.size < W3.heap.size ∧ Below w2.heap.size w2 W3) := ⟨hr, e1, e2, e3, hr.base_le HK.out e1, x3.2.2, bb3⟩
            have hnt := tx.specNewTx_any W3 y h
            clear k1 k2 k3 k4 k5 bb3 x3 hr e1 e2 e3 bl H1 p0 p1 p2 p3 p4 p5 ga jm hil hin w65 g0 dS d4 dE dG jn w64
            go_wp2_with fail
            rw [← hW3]
            clear hW3
            refine hnt.mono ?_
            clear hnt
            rintro e w4 ⟨ta, tc, th, td, PR, PS, rfl, hot, b4⟩
            obtain ⟨W5, hW5⟩ : ∃ Y, Y = w4.alloc (.cells #[.int .i64 (tx.newT y h).id, .int .i64 (tx.newT y h).home, .int .i64 (tx.newT y h).phase, .int .i64 (tx.newT y h).count, .slice ta (tx.newT y h).reads.length tc, .slice th (tx.newT y h).sets.length td, .int .i64 (tx.newT y h).stamp] 56) := ⟨_, rfl⟩
            have b45 : Below w4.heap.size w4 W5 := by rw [hW5]; exact (Below.refl _ _).alloc (Nat.le_refl _) _
            have x5 : Bx W5 w4.heap.size [.int .i64 (tx.newT y h).id, .int .i64 (tx.newT y h).home, .int .i64 (tx.newT y h).phase, .int .i64 (tx.newT y h).count, .slice ta (tx.newT y h).reads.length tc, .slice th (tx.newT y h).sets.length td, .int .i64 (tx.newT y h).stamp] := by rw [hW5]; exact Bx.made w4 [.int .i64 (tx.newT y h).id, .int .i64 (tx.newT y h).home, .int .i64 (tx.newT y h).phase, .int .i64 (tx.newT y h).count, .slice ta (tx.newT y h).reads.length tc, .slice th (tx.newT y h).sets.length td, .int .i64 (tx.newT y h).stamp] _
            obtain ⟨W7, hW7⟩ : ∃ Y, Y = W5.alloc (.cells #[.int .i64 (tx.newT y h).id, .int .i64 (tx.newT y h).home, .int .i64 (tx.newT y h).phase, .int .i64 (tx.newT y h).count, .slice ta (tx.newT y h).reads.length tc, .slice th (tx.newT y h).sets.length td, .int .i64 (tx.newT y h).stamp] 56) := ⟨_, rfl⟩
            have b7 : Below W5.heap.size W5 W7 := by rw [hW7]; exact (Below.refl _ _).alloc (Nat.le_refl _) _
            have x7 : Bx W7 W5.heap.size [.int .i64 (tx.newT y h).id, .int .i64 (tx.newT y h).home, .int .i64 (tx.newT y h).phase, .int .i64 (tx.newT y h).count, .slice ta (tx.newT y h).reads.length tc, .slice th (tx.newT y h).sets.length td, .int .i64 (tx.newT y h).stamp] := by rw [hW7]; exact Bx.made W5 [.int .i64 (tx.newT y h).id, .int .i64 (tx.newT y h).home, .int .i64 (tx.newT y h).phase, .int .i64 (tx.newT y h).count, .slice ta (tx.newT y h).reads.length tc, .slice th (tx.newT y h).sets.length td, .int .i64 (tx.newT y h).stamp] _
            have b37 : Below W3.heap.size W3 W7 := bstep (bstep b4 b45) b7
            obtain ⟨c1', c2', c3', c4', c5', c6', c7'⟩ := HC.out
            obtain ⟨a', c', Y, hrun, hfar, hsz, hbel, PP, hPP, hOW⟩ := clPush c1' c2' c3' c4' h60 c5' c6' c7' b37 (tx.newT y h) ta tc th td (tx.OfT PR PS) x7 ((KT.ow hot).later (bstep b45 b7))
            have y5 := H3.out.2.2.2.later (bstep b4 b45)
            have y7 := y5.later b7
            have yY : Bx Y w2.heap.size [.int .i64 k.config, .int .i64 k.clock, .slice b1 k.places.length d1, .slice b2 k.machines.length d2, .slice b3 k.txs.length d3, .bool k.lost] := y7.of_block (hfar _ y7.2.2 (.inr (Nat.le_refl _))) hsz
            have z7 := H3.out.2.2.1.later b37
            have hs1 := H3.out.2.1
            have zY : Bx Y (w.heap.size + 1) [.int .i64 0, .int .i64 0, .slice none 0 0, .slice none 0 0, .slice none 0 0, .bool false] := z7.of_block (hfar _ z7.2.2 (.inl (by omega))) hsz
            have bY : Below w.heap.size w Y := hbel w (bstep H3.out.1 b37) (by omega)
            obtain ⟨Z, hZ⟩ : ∃ Z, Z = Y.setCell ⟨w2.heap.size, 4, none⟩ (.slice a' (k.txs.length + 1) c') := ⟨_, rfl⟩
            have yZ : Bx Z w2.heap.size [.int .i64 k.config, .int .i64 k.clock, .slice b1 k.places.length d1, .slice b2 k.machines.length d2, .slice a' (k.txs.length + 1) c', .bool k.lost] := by rw [hZ]; exact yY.set (i := 4) (by simp) _
            have zZ : Bx Z (w.heap.size + 1) [.int .i64 0, .int .i64 0, .slice none 0 0, .slice none 0 0, .slice none 0 0, .bool false] := by rw [hZ]; exact zY.far (by omega) _
            have bZ : Below w.heap.size w Z := by rw [hZ]; exact bY.setCell (p := ⟨w2.heap.size, 4, none⟩) (by show w.heap.size ≤ w2.heap.size; omega) _
            rw [← hZ] at hOW
            have KE : Hid (KCl.Ow Z (w1.heap.size + 3) b1 d1 b2 d2 a' c' (pushTx k (tx.newT y h)) PP ∧ Below w.heap.size w Z ∧ w.heap.size + 2 ≤ w1.heap.size) := ⟨hOW, bZ, hs1⟩
            have t0 := x5.1 0 _ rfl
            have t1 := x5.1 1 _ rfl
            have t2 := x5.1 2 _ rfl
            have t3 := x5.1 3 _ rfl
            have t4 := x5.1 4 _ rfl
            have t5 := x5.1 5 _ rfl
            have t6 := x5.1 6 _ rfl
            have o4 := y5.1 4 _ rfl
            have v4 := yY.1 4 _ rfl
            have vf4 := yY.2.1 4
            have o'0 := yZ.1 0 _ rfl
            have o'1 := yZ.1 1 _ rfl
            have o'2 := yZ.1 2 _ rfl
            have o'3 := yZ.1 3 _ rfl
            have o'4 := yZ.1 4 _ rfl
            have o'5 := yZ.1 5 _ rfl
            have r0 := zZ.1 0 _ rfl
            have r1 := zZ.1 1 _ rfl
            have r2 := zZ.1 2 _ rfl
            have r3 := zZ.1 3 _ rfl
            have r4 := zZ.1 4 _ rfl
            have r5 := zZ.1 5 _ rfl
            have f0 := zZ.2.1 0
            have f1 := zZ.2.1 1
            have f2 := zZ.2.1 2
            have f3 := zZ.2.1 3
            have f4 := zZ.2.1 4
            have f5 := zZ.2.1 5
            rw [hZ] at o'0 o'1 o'2 o'3 o'4 o'5 r0 r1 r2 r3 r4 r5 f0 f1 f2 f3 f4 f5
            have hs5 : W5.heap.size = w4.heap.size + 1 := by rw [hW5]; simp
            rw [hW7, hs5] at hrun
            clear hs5
            rw [hW5] at hrun o4 t0 t1 t2 t3 t4 t5 t6
            clear hot b4 b45 x5 b7 x7 b37 c1' c2' c3' c4' c5' c6' c7' hfar hsz hbel hPP y5 y7 yY z7 zY bY yZ zZ bZ hOW H3 HC HK HI hs1 hW7 h60
            go_wp2_with (at_builtin; refine append_known _ rfl (.tmp 82) (.tmp 84) 30 rfl _ _ _ _ rfl rfl hrun ?_)
            rw [← hZ] at r0 r1 r2 r3 r4 r5 ⊢
            clear hZ
            refine bodyPost_ret (v := .tuple #[.agg #[.int .i64 k.config, .int .i64 k.clock, .slice b1 k.places.length d1, .slice b2 k.machines.length d2, .slice a' (k.txs.length + 1) c', .bool k.lost], .int .i64 0]) (by simp [results, Tryz.results10, go_sem, r0, r1, r2, r3, r4, r5]) rfl ?_
            rw [HX.out.1, HX.out.2]
            refine ⟨b1, d1, b2, d2, a', c', PP, by simp [pushTx], ?_, ?_⟩
            · exact (KE.out.1.low (by have := KE.out.2.2; omega)).keep (w' := putB Z (w.heap.size + 1) 0 [.int .i64 k.config, .int .i64 k.clock, .slice b1 k.places.length d1, .slice b2 k.machines.length d2, .slice a' (k.txs.length + 1) c', .bool k.lost]) (by rw [putB_size]; exact Nat.le_refl _) (fun q hq => putB_block (fun e => by have := (KE.out.1.of hq).1; have := KE.out.2.2; omega) _ _ _)
            · exact putB_below (w := w) (by omega) [.int .i64 k.config, .int .i64 k.clock, .slice b1 k.places.length d1, .slice b2 k.machines.length d2, .slice a' (k.txs.length + 1) c', .bool k.lost] Z 0 KE.out.2.1
        · have hh : hmB k h = false := by
            cases hh : hmB k h with
            | false => rfl
            | true =>
              exfalso; apply hin
              simp only [hmB, Bool.and_eq_true, decide_eq_true_eq] at hh
              rw [inB_iff]; omega
          have hin' : inB 0 ((k.machines.length : Int) - 1) h = false := by simpa using hin
          obtain ⟨e1, e2⟩ := begC_home HK.out HI.out hh
          have HX : Hid (begC k y h = 3 ∧ begK k y h = leftC k) := ⟨e1, by rw [e2, hleft.out]⟩
          have hno := l9No_any w1 a1 c1 a2 c2 (some ⟨b, off, none⟩) c3 k 3 H1.out.2.2.2.2 (.inl HK.out) (fun _ => by decide)
          clear e1 e2 hh hin
          go_wp2_with (first | (go_at_call 31; refine (tx.specId_e _ _).mono ?_; rintro e w' ⟨rfl, hw'⟩; subst w') | (go_at_call 32; refine (specIn _ _ _ _).mono ?_; rintro e w' ⟨rfl, hw'⟩; subst w'))
          refine hno.mono ?_
          clear hno
          rintro e w2 ⟨e1, g1, e2, g2, e3, g3, PP, rfl, how, b2⟩
          have y0 := H1.out.2.2.2.1.later b2
          have r0 := y0.1 0 _ rfl
          have r1 := y0.1 1 _ rfl
          have r2 := y0.1 2 _ rfl
          have r3 := y0.1 3 _ rfl
          have r4 := y0.1 4 _ rfl
          have r5 := y0.1 5 _ rfl
          have f0 := y0.2.1 0
          have f1 := y0.2.1 1
          have f2 := y0.2.1 2
          have f3 := y0.2.1 3
          have f4 := y0.2.1 4
          have f5 := y0.2.1 5
          have KE : Hid (KCl.Ow w2 w1.heap.size e1 g1 e2 g2 e3 g3 (leftC k) PP ∧ Below w.heap.size w w2 ∧ w.heap.size + 2 ≤ w1.heap.size) := ⟨how, bstep H1.out.1 b2, H1.out.2.1⟩
          clear y0 how b2 H1 p0 p1 p2 p3 p4 p5
          generalize leftC k = N at *
          go_wp2
          refine bodyPost_ret (v := .tuple #[.agg #[.int .i64 N.config, .int .i64 N.clock, .slice e1 N.places.length g1, .slice e2 N.machines.length g2, .slice e3 N.txs.length g3, .bool N.lost], .int .i64 3]) (by simp [results, Tryz.results10, go_sem, r0, r1, r2, r3, r4, r5]) rfl ?_
          rw [HX.out.1, HX.out.2]
          refine ⟨e1, g1, e2, g2, e3, g3, PP, rfl, ?_, ?_⟩
          · exact (KE.out.1.low (show w.heap.size ≤ _ by have := KE.out.2.2; omega)).keep (w' := putB w2 (w.heap.size + 1) 0 [.int .i64 N.config, .int .i64 N.clock, .slice e1 N.places.length g1, .slice e2 N.machines.length g2, .slice e3 N.txs.length g3, .bool N.lost]) (by rw [putB_size]; exact Nat.le_refl _) (fun q hq => putB_block (fun e => by have := (KE.out.1.of hq).1; have := KE.out.2.2; omega) _ _ _)
          · exact putB_below (w := w) (by omega) [.int .i64 N.config, .int .i64 N.clock, .slice e1 N.places.length g1, .slice e2 N.machines.length g2, .slice e3 N.txs.length g3, .bool N.lost] w2 0 KE.out.2.1
end Go.Proofs.YtnhjgomfkfehgaaGreatDoor
namespace Go.Proofs.YtnhjgomfkfehgaaGreatDoor.tx
open Go.RowKit
set_option maxHeartbeats 1000000 in
theorem implNewTx_any (w : World) (i h : Int) : Calls Tryz.prog 93 #[.int .i64 i, .int .i64 h] w (TAns w (newT i h) (newB i h)) := by
  have b0 : Hid (∀ o, Below w.heap.size w (w.alloc o)) := fun o => (Below.refl _ _).alloc (Nat.le_refl _) _
  cases h1 : inB 1 1000000 i with
  | false =>
    have e1 : newT i h = noT := by simp [newT, h1]
    have e2 : newB i h = false := by simp [newB, h1]
    rw [e1, e2]
    go_enter Tryz.func93, Tryz.ntmps93
    go_wp2_with (first | (go_at_call 152; refine (implId _ _).mono ?_; rintro e w' ⟨rfl, rfl⟩) | (go_at_call 153; refine (implMachine _ _).mono ?_; rintro e w' ⟨rfl, rfl⟩))
    refine bodyPost_ret (v := .tuple #[.agg #[.int .i64 0, .int .i64 0, .int .i64 0, .int .i64 0, .slice none 0 0, .slice none 0 0, .int .i64 0], .bool false]) (by simp [results, Tryz.results93, go_sem]) rfl ?_
    exact TAns.zero (b0.out _)
  | true =>
    cases h2 : inB 0 7 h with
    | false =>
      have e1 : newT i h = noT := by simp [newT, h2]
      have e2 : newB i h = false := by simp [newB, h2]
      rw [e1, e2]
      go_enter Tryz.func93, Tryz.ntmps93
      go_wp2_with (first | (go_at_call 152; refine (implId _ _).mono ?_; rintro e w' ⟨rfl, rfl⟩) | (go_at_call 153; refine (implMachine _ _).mono ?_; rintro e w' ⟨rfl, rfl⟩))
      refine bodyPost_ret (v := .tuple #[.agg #[.int .i64 0, .int .i64 0, .int .i64 0, .int .i64 0, .slice none 0 0, .slice none 0 0, .int .i64 0], .bool false]) (by simp [results, Tryz.results93, go_sem]) rfl ?_
      exact TAns.zero (b0.out _)
    | true =>
      have e1 : newT i h = ⟨i, h, 1, 0, [], [], 0⟩ := by simp [newT, h1, h2]
      have e2 : newB i h = true := by simp [newB, h1, h2]
      rw [e1, e2]
      go_enter Tryz.func93, Tryz.ntmps93
      go_wp2_with (first | (go_at_call 152; refine (implId _ _).mono ?_; rintro e w' ⟨rfl, rfl⟩) | (go_at_call 153; refine (implMachine _ _).mono ?_; rintro e w' ⟨rfl, rfl⟩))
      refine bodyPost_ret (v := .tuple #[.agg #[.int .i64 i, .int .i64 h, .int .i64 1, .int .i64 0, .slice none 0 0, .slice none 0 0, .int .i64 0], .bool true]) (by simp [results, Tryz.results93, go_sem]) rfl ?_
      exact ⟨none, 0, none, 0, fun _ => False, fun _ => False, rfl, OT.none rfl rfl, b0.out _⟩
end Go.Proofs.YtnhjgomfkfehgaaGreatDoor.tx
namespace Go.Proofs.YtnhjgomfkfehgaaGreatDoor
open Go.RowKit
open Go.Sort (grow)
set_option maxRecDepth 100000 in
set_option maxHeartbeats 2000000 in
theorem begin_any (w : World) (a1 : Option Addr) (c1 : Nat) (a2 : Option Addr) (c2 : Nat) (a3 : Option Addr) (c3 : Nat) (k : C6) (y h : Int) (hl : KCl.L k) (hr : KCl.Rd w a1 c1 a2 c2 a3 c3 k) :
    Calls Tryz.prog 40 #[.agg #[.int .i64 k.config, .int .i64 k.clock, .slice a1 k.places.length c1, .slice a2 k.machines.length c2, .slice a3 k.txs.length c3, .bool k.lost], .int .i64 y, .int .i64 h] w (DAns w (begK k y h) (begC k y h)) := by
  obtain ⟨W0, hW0⟩ : ∃ Y, Y = (w.alloc (.cells #[.int .i64 k.config, .int .i64 k.clock, .slice a1 k.places.length c1, .slice a2 k.machines.length c2, .slice a3 k.txs.length c3, .bool k.lost] 32)).alloc (.cells #[.int .i64 0, .int .i64 0, .slice none 0 0, .slice none 0 0, .slice none 0 0, .bool false] 32) := ⟨_, rfl⟩
  have b0 : Below w.heap.size w W0 := by rw [hW0]; exact ((Below.refl _ _).alloc (Nat.le_refl _) _).alloc (by simp) _
  have s0 : W0.heap.size = w.heap.size + 2 := by rw [hW0]; simp
  have x0 : Bx W0 w.heap.size [.int .i64 k.config, .int .i64 k.clock, .slice a1 k.places.length c1, .slice a2 k.machines.length c2, .slice a3 k.txs.length c3, .bool k.lost] := by
    have := (Bx.made w [.int .i64 k.config, .int .i64 k.clock, .slice a1 k.places.length c1, .slice a2 k.machines.length c2, .slice a3 k.txs.length c3, .bool k.lost] 32).later ((Below.refl _ _).alloc (Nat.le_refl _) (.cells #[.int .i64 0, .int .i64 0, .slice none 0 0, .slice none 0 0, .slice none 0 0, .bool false] 32))
    rw [hW0]; exact this
  have x1 : Bx W0 (w.heap.size + 1) [.int .i64 0, .int .i64 0, .slice none 0 0, .slice none 0 0, .slice none 0 0, .bool false] := by
    have h := Bx.made (w.alloc (.cells #[.int .i64 k.config, .int .i64 k.clock, .slice a1 k.places.length c1, .slice a2 k.machines.length c2, .slice a3 k.txs.length c3, .bool k.lost] 32)) [.int .i64 0, .int .i64 0, .slice none 0 0, .slice none 0 0, .slice none 0 0, .bool false] 32
    rw [show (w.alloc (.cells #[.int .i64 k.config, .int .i64 k.clock, .slice a1 k.places.length c1, .slice a2 k.machines.length c2, .slice a3 k.txs.length c3, .bool k.lost] 32)).heap.size = w.heap.size + 1 by simp] at h
    rw [hW0]; exact h
  have p0 := x0.1 0 _ rfl
  have p1 := x0.1 1 _ rfl
  have p2 := x0.1 2 _ rfl
  have p3 := x0.1 3 _ rfl
  have p4 := x0.1 4 _ rfl
  have p5 := x0.1 5 _ rfl
  have HR := hidOf (hr.later b0)
  have H : Hid (Below w.heap.size w W0 ∧ W0.heap.size = w.heap.size + 2 ∧ Bx W0 w.heap.size [.int .i64 k.config, .int .i64 k.clock, .slice a1 k.places.length c1, .slice a2 k.machines.length c2, .slice a3 k.txs.length c3, .bool k.lost] ∧ Bx W0 (w.heap.size + 1) [.int .i64 0, .int .i64 0, .slice none 0 0, .slice none 0 0, .slice none 0 0, .bool false]) := ⟨b0, s0, x0, x1⟩
  rw [hW0] at p0 p1 p2 p3 p4 p5
  cases hk : clusterB k with
  | false =>
    have hc := needRight_no W0 a1 c1 a2 c2 a3 c3 k hl HR.out hk
    obtain ⟨e1, e2⟩ := begC_bad (y := y) (h := h) hk
    have HX : Hid (∀ e w', RAns W0 zC 1 e w' → DAns w (begK k y h) (begC k y h) e w') := fun e w' q => by rw [e1, e2]; exact (RAns.lowB q H.out.1).d (by decide)
    clear b0 s0 x0 x1 hl hr hk e1 e2
    go_enter Tryz.func40, Tryz.ntmps40
    go_wp2_with fail
    rw [← hW0]
    clear hW0 p0 p1 p2 p3 p4 p5
    refine hc.mono ?_
    clear hc
    intro e w6 hq
    have hq' := hidOf hq
    obtain ⟨b1, d1, b2, d2, b3, d3, P, rfl, -, -⟩ := hq
    go_wp2
    exact ⟨rfl, HX.out _ _ hq'.out⟩
  | true =>
    have hc := needRight_yes W0 a1 c1 a2 c2 a3 c3 k hl HR.out hk
    have HK := hidOf hk
    have h60 := (CSm.of hk).t
    clear b0 s0 x0 x1 hl hr hk
    go_enter Tryz.func40, Tryz.ntmps40
    go_wp2_with fail
    rw [← hW0]
    clear hW0 p0 p1 p2 p3 p4 p5
    refine hc.mono ?_
    clear hc
    rintro e w1 ⟨rfl, bl1⟩
    obtain ⟨k1, k2, k3, k4⟩ := H.out
    have H1 : Hid (Below w.heap.size w w1 ∧ w.heap.size + 2 ≤ w1.heap.size ∧ Bx w1 w.heap.size [.int .i64 k.config, .int .i64 k.clock, .slice a1 k.places.length c1, .slice a2 k.machines.length c2, .slice a3 k.txs.length c3, .bool k.lost] ∧ Bx w1 (w.heap.size + 1) [.int .i64 0, .int .i64 0, .slice none 0 0, .slice none 0 0, .slice none 0 0, .bool false] ∧ KCl.Rd w1 a1 c1 a2 c2 a3 c3 k) := ⟨bstep k1 bl1, by have := bl1.size; omega, k3.later bl1, k4.later bl1, HR.out.later bl1⟩
    have p0 := H1.out.2.2.1.1 0 _ rfl
    have p1 := H1.out.2.2.1.1 1 _ rfl
    have p2 := H1.out.2.2.1.1 2 _ rfl
    have p3 := H1.out.2.2.1.1 3 _ rfl
    have p4 := H1.out.2.2.1.1 4 _ rfl
    have p5 := H1.out.2.2.1.1 5 _ rfl
    have ho := ownCluster_any w1 a1 c1 a2 c2 a3 c3 k HK.out H1.out.2.2.2.2
    clear k1 k2 k3 k4 bl1 H HR
    go_wp2_with fail
    refine ho.mono ?_
    clear ho p0 p1 p2 p3 p4 p5
    rintro e w2 ⟨b1, d1, b2, d2, b3, d3, ps, gp, ms, gm, ts, gt, rfl, hr, e1, e2, e3, bl⟩
    obtain ⟨W3, hW3⟩ : ∃ Y, Y = w2.alloc (.cells #[.int .i64 k.config, .int .i64 k.clock, .slice b1 k.places.length d1, .slice b2 k.machines.length d2, .slice b3 k.txs.length d3, .bool k.lost] 32) := ⟨_, rfl⟩
    have bb3 : Below w2.heap.size w2 W3 := by rw [hW3]; exact (Below.refl _ _).alloc (Nat.le_refl _) _
    have x3 : Bx W3 w2.heap.size [.int .i64 k.config, .int .i64 k.clock, .slice b1 k.places.length d1, .slice b2 k.machines.length d2, .slice b3 k.txs.length d3, .bool k.lost] := by rw [hW3]; exact Bx.made w2 [.int .i64 k.config, .int .i64 k.clock, .slice b1 k.places.length d1, .slice b2 k.machines.length d2, .slice b3 k.txs.length d3, .bool k.lost] _
    obtain ⟨k1, k2, k3, k4, k5⟩ := H1.out
    have s2 := bl.size
    have HS : Hid (KCl.Ow W3 (w1.heap.size + 3) b1 d1 b2 d2 b3 d3 k (fun q => Kd.blk (.slice b1 k.places.length d1) ps gp q ∨ Kd.blk (.slice b2 k.machines.length d2) ms gm q ∨ Kd.blk (.slice b3 k.txs.length d3) ts gt q)) := (hr.ow e1 e2 e3).later bb3
    have H3 : Hid (Below w.heap.size w W3 ∧ w.heap.size + 2 ≤ w1.heap.size ∧ Bx W3 w.heap.size [.int .i64 k.config, .int .i64 k.clock, .slice a1 k.places.length c1, .slice a2 k.machines.length c2, .slice a3 k.txs.length c3, .bool k.lost] ∧ Bx W3 (w.heap.size + 1) [.int .i64 0, .int .i64 0, .slice none 0 0, .slice none 0 0, .slice none 0 0, .bool false] ∧ KCl.Rd W3 a1 c1 a2 c2 a3 c3 k ∧ Bx W3 w2.heap.size [.int .i64 k.config, .int .i64 k.clock, .slice b1 k.places.length d1, .slice b2 k.machines.length d2, .slice b3 k.txs.length d3, .bool k.lost]) := ⟨bstep (bstep k1 bl) bb3, k2, (k3.later bl).later bb3, (k4.later bl).later bb3, (k5.later bl).later bb3, x3⟩
    have HC : Hid (CL3 (w1.heap.size + 3) (w1.heap.size + 2) w2 (.slice b1 k.places.length d1) (.slice b2 k.machines.length d2) (.slice b3 k.txs.length d3) ps gp ms gm ts gt ∧ ps.map (·.2) = k.places ∧ ms.map (·.2) = k.machines ∧ ts.map (·.2) = k.txs ∧ w1.heap.size + 3 ≤ w2.heap.size ∧ w2.heap.size < W3.heap.size ∧ Below w2.heap.size w2 W3) := ⟨hr, e1, e2, e3, hr.base_le HK.out e1, x3.2.2, bb3⟩
    have p4 := H3.out.2.2.1.1 4 _ rfl
    have hcb := canBegin_any W3 a3 c3 k y h60 H3.out.2.2.2.2.1.t
    rw [hW3] at p4
    clear k1 k2 k3 k4 k5 s2 bb3 x3 hr e1 e2 e3 bl H1
    go_wp2_with fail
    rw [← hW3]
    rw [← hW3] at p4
    clear hW3
    refine hcb.mono ?_
    clear hcb
    rintro e w' ⟨rfl, rfl⟩
    cases hi : idB k y with
    | false =>
      obtain ⟨e1, e2⟩ := begC_id (h := h) HK.out hi
      have o0 := H3.out.2.2.2.2.2.1 0 _ rfl
      have o1 := H3.out.2.2.2.2.2.1 1 _ rfl
      have o2 := H3.out.2.2.2.2.2.1 2 _ rfl
      have o3 := H3.out.2.2.2.2.2.1 3 _ rfl
      have o4 := H3.out.2.2.2.2.2.1 4 _ rfl
      have o5 := H3.out.2.2.2.2.2.1 5 _ rfl
      have HX : Hid (begC k y h = 2 ∧ begK k y h = k) := ⟨e1, e2⟩
      clear e1 e2 hi p4
      go_wp2_with fail
      refine (refuse_any w' 2 _ _ _ _ _ _).mono ?_
      rintro e w9 ⟨rfl, rfl⟩
      go_wp2
      exact ⟨rfl, by rw [HX.out.1, HX.out.2]; exact ⟨b1, d1, b2, d2, b3, d3, _, .inr ⟨by decide, rfl⟩, (HS.out.low (by have := H3.out.2.1; omega)).later ((Below.refl _ _).alloc (Nat.le_refl _) _), H3.out.1.alloc H3.out.1.size _⟩⟩
    | true =>
      have HI := hidOf hi
      have hnt := tx.implNewTx_any w' y h
      clear p4 hi
      go_wp2_with fail
      refine hnt.mono ?_
      clear hnt
      rintro e w4 ⟨ta, tc, th, td, PR, PS, rfl, hot, b4⟩
      obtain ⟨W5, hW5⟩ : ∃ Y, Y = w4.alloc (.cells #[.int .i64 (tx.newT y h).id, .int .i64 (tx.newT y h).home, .int .i64 (tx.newT y h).phase, .int .i64 (tx.newT y h).count, .slice ta (tx.newT y h).reads.length tc, .slice th (tx.newT y h).sets.length td, .int .i64 (tx.newT y h).stamp] 56) := ⟨_, rfl⟩
      have b5 : Below w'.heap.size w' W5 := by rw [hW5]; exact b4.alloc b4.size _
      have b45 : Below w4.heap.size w4 W5 := by rw [hW5]; exact (Below.refl _ _).alloc (Nat.le_refl _) _
      have x5 : Bx W5 w4.heap.size [.int .i64 (tx.newT y h).id, .int .i64 (tx.newT y h).home, .int .i64 (tx.newT y h).phase, .int .i64 (tx.newT y h).count, .slice ta (tx.newT y h).reads.length tc, .slice th (tx.newT y h).sets.length td, .int .i64 (tx.newT y h).stamp] := by rw [hW5]; exact Bx.made w4 [.int .i64 (tx.newT y h).id, .int .i64 (tx.newT y h).home, .int .i64 (tx.newT y h).phase, .int .i64 (tx.newT y h).count, .slice ta (tx.newT y h).reads.length tc, .slice th (tx.newT y h).sets.length td, .int .i64 (tx.newT y h).stamp] _
      have ht5 : KT.Ow W5 w'.heap.size ta tc th td (tx.newT y h) (tx.OfT PR PS) := (KT.ow hot).later b45
      have H5 : Hid (Below w'.heap.size w' W5 ∧ Bx W5 w4.heap.size [.int .i64 (tx.newT y h).id, .int .i64 (tx.newT y h).home, .int .i64 (tx.newT y h).phase, .int .i64 (tx.newT y h).count, .slice ta (tx.newT y h).reads.length tc, .slice th (tx.newT y h).sets.length td, .int .i64 (tx.newT y h).stamp] ∧ KT.Ow W5 w'.heap.size ta tc th td (tx.newT y h) (tx.OfT PR PS)) := ⟨b5, x5, ht5⟩
      clear hot b4 b45 b5 x5 ht5
      cases hn : tx.newB y h with
      | false =>
        have hh : hmB k h = false := by
          cases hh : hmB k h with
          | false => rfl
          | true => rw [(begC_ok HK.out HI.out hh).1] at hn; cases hn
        obtain ⟨e1, e2⟩ := begC_home HK.out HI.out hh
        have HX : Hid (begC k y h = 3 ∧ begK k y h = k) := ⟨e1, e2⟩
        have y2 := H3.out.2.2.2.2.2.later H5.out.1
        have o0 := y2.1 0 _ rfl
        have o1 := y2.1 1 _ rfl
        have o2 := y2.1 2 _ rfl
        have o3 := y2.1 3 _ rfl
        have o4 := y2.1 4 _ rfl
        have o5 := y2.1 5 _ rfl
        rw [hW5] at o0 o1 o2 o3 o4 o5
        clear e1 e2 hn hh y2
        go_wp2_with fail
        rw [← hW5]
        clear hW5
        refine (refuse_any W5 3 _ _ _ _ _ _).mono ?_
        rintro e w9 ⟨rfl, rfl⟩
        go_wp2
        exact ⟨rfl, by rw [HX.out.1, HX.out.2]; exact ⟨b1, d1, b2, d2, b3, d3, _, .inr ⟨by decide, rfl⟩, ((HS.out.low (by have := H3.out.2.1; omega)).later H5.out.1).later ((Below.refl _ _).alloc (Nat.le_refl _) _), (bstep H3.out.1 H5.out.1).alloc (bstep H3.out.1 H5.out.1).size _⟩⟩
      | true =>
        have hhl := homeLivesI_any W5 a1 c1 a2 c2 a3 c3 k h (H3.out.2.2.2.2.1.later H5.out.1)
        have y2 := H3.out.2.2.1.later H5.out.1
        have o0 := y2.1 0 _ rfl
        have o1 := y2.1 1 _ rfl
        have o2 := y2.1 2 _ rfl
        have o3 := y2.1 3 _ rfl
        have o4 := y2.1 4 _ rfl
        have o5 := y2.1 5 _ rfl
        rw [hW5] at o0 o1 o2 o3 o4 o5
        clear y2 hn
        go_wp2_with fail
        rw [← hW5]
        clear hW5 o0 o1 o2 o3 o4 o5
        refine hhl.mono ?_
        clear hhl
        rintro e w6 ⟨rfl, b6⟩
        have H6 : Hid (Below w'.heap.size w' w6 ∧ Bx w6 w4.heap.size [.int .i64 (tx.newT y h).id, .int .i64 (tx.newT y h).home, .int .i64 (tx.newT y h).phase, .int .i64 (tx.newT y h).count, .slice ta (tx.newT y h).reads.length tc, .slice th (tx.newT y h).sets.length td, .int .i64 (tx.newT y h).stamp] ∧ KT.Ow w6 w'.heap.size ta tc th td (tx.newT y h) (tx.OfT PR PS)) := ⟨bstep H5.out.1 b6, H5.out.2.1.later b6, H5.out.2.2.later b6⟩
        clear b6 H5
        have y2 := H3.out.2.2.2.2.2.later H6.out.1
        cases hh : hmB k h with
        | false =>
          obtain ⟨e1, e2⟩ := begC_home HK.out HI.out hh
          have HX : Hid (begC k y h = 3 ∧ begK k y h = k) := ⟨e1, e2⟩
          have o0 := y2.1 0 _ rfl
          have o1 := y2.1 1 _ rfl
          have o2 := y2.1 2 _ rfl
          have o3 := y2.1 3 _ rfl
          have o4 := y2.1 4 _ rfl
          have o5 := y2.1 5 _ rfl
          clear e1 e2 hh y2
          go_wp2_with fail
          refine (refuse_any w6 3 _ _ _ _ _ _).mono ?_
          rintro e w9 ⟨rfl, rfl⟩
          go_wp2
          exact ⟨rfl, by rw [HX.out.1, HX.out.2]; exact ⟨b1, d1, b2, d2, b3, d3, _, .inr ⟨by decide, rfl⟩, ((HS.out.low (by have := H3.out.2.1; omega)).later H6.out.1).later ((Below.refl _ _).alloc (Nat.le_refl _) _), (bstep H3.out.1 H6.out.1).alloc (bstep H3.out.1 H6.out.1).size _⟩⟩
        | true =>
          obtain ⟨_, e1, e2⟩ := begC_ok HK.out HI.out hh
          have HX : Hid (begC k y h = 0 ∧ begK k y h = pushTx k (tx.newT y h)) := ⟨e1, e2⟩
          clear e1 e2 hh
          obtain ⟨W7, hW7⟩ : ∃ Y, Y = w6.alloc (.cells #[.int .i64 (tx.newT y h).id, .int .i64 (tx.newT y h).home, .int .i64 (tx.newT y h).phase, .int .i64 (tx.newT y h).count, .slice ta (tx.newT y h).reads.length tc, .slice th (tx.newT y h).sets.length td, .int .i64 (tx.newT y h).stamp] 56) := ⟨_, rfl⟩
          have b7 : Below w6.heap.size w6 W7 := by rw [hW7]; exact (Below.refl _ _).alloc (Nat.le_refl _) _
          have x7 : Bx W7 w6.heap.size [.int .i64 (tx.newT y h).id, .int .i64 (tx.newT y h).home, .int .i64 (tx.newT y h).phase, .int .i64 (tx.newT y h).count, .slice ta (tx.newT y h).reads.length tc, .slice th (tx.newT y h).sets.length td, .int .i64 (tx.newT y h).stamp] := by rw [hW7]; exact Bx.made w6 [.int .i64 (tx.newT y h).id, .int .i64 (tx.newT y h).home, .int .i64 (tx.newT y h).phase, .int .i64 (tx.newT y h).count, .slice ta (tx.newT y h).reads.length tc, .slice th (tx.newT y h).sets.length td, .int .i64 (tx.newT y h).stamp] _
          obtain ⟨c1', c2', c3', c4', c5', c6', c7'⟩ := HC.out
          obtain ⟨a', c', Y, hrun, hfar, hsz, hbel, PP, hPP, hOW⟩ := clPush c1' c2' c3' c4' h60 c5' c6' c7' (bstep H6.out.1 b7) (tx.newT y h) ta tc th td (tx.OfT PR PS) x7 (H6.out.2.2.later b7)
          have y7 := y2.later b7
          have yY : Bx Y w2.heap.size [.int .i64 k.config, .int .i64 k.clock, .slice b1 k.places.length d1, .slice b2 k.machines.length d2, .slice b3 k.txs.length d3, .bool k.lost] := y7.of_block (hfar _ y7.2.2 (.inr (Nat.le_refl _))) hsz
          have z7 := (H3.out.2.2.2.1.later H6.out.1).later b7
          have zY : Bx Y (w.heap.size + 1) [.int .i64 0, .int .i64 0, .slice none 0 0, .slice none 0 0, .slice none 0 0, .bool false] := z7.of_block (hfar _ z7.2.2 (.inl (by have := H3.out.2.1; omega))) hsz
          have bY : Below w.heap.size w Y := hbel w (bstep (bstep H3.out.1 H6.out.1) b7) (by have := H3.out.2.1; omega)
          have hs1 := H3.out.2.1
          obtain ⟨Z, hZ⟩ : ∃ Z, Z = Y.setCell ⟨w2.heap.size, 4, none⟩ (.slice a' (k.txs.length + 1) c') := ⟨_, rfl⟩
          have yZ : Bx Z w2.heap.size [.int .i64 k.config, .int .i64 k.clock, .slice b1 k.places.length d1, .slice b2 k.machines.length d2, .slice a' (k.txs.length + 1) c', .bool k.lost] := by rw [hZ]; exact yY.set (i := 4) (by simp) _
          have zZ : Bx Z (w.heap.size + 1) [.int .i64 0, .int .i64 0, .slice none 0 0, .slice none 0 0, .slice none 0 0, .bool false] := by rw [hZ]; exact zY.far (by omega) _
          have bZ : Below w.heap.size w Z := by rw [hZ]; exact bY.setCell (p := ⟨w2.heap.size, 4, none⟩) (by show w.heap.size ≤ w2.heap.size; omega) _
          rw [← hZ] at hOW
          have KE : Hid (KCl.Ow Z (w1.heap.size + 3) b1 d1 b2 d2 a' c' (pushTx k (tx.newT y h)) PP ∧ Below w.heap.size w Z ∧ w.heap.size + 2 ≤ w1.heap.size) := ⟨hOW, bZ, hs1⟩
          have t0 := (H6.out.2.1).1 0 _ rfl
          have t1 := (H6.out.2.1).1 1 _ rfl
          have t2 := (H6.out.2.1).1 2 _ rfl
          have t3 := (H6.out.2.1).1 3 _ rfl
          have t4 := (H6.out.2.1).1 4 _ rfl
          have t5 := (H6.out.2.1).1 5 _ rfl
          have t6 := (H6.out.2.1).1 6 _ rfl
          have o4 := y2.1 4 _ rfl
          have v4 := yY.1 4 _ rfl
          have vf4 := yY.2.1 4
          have o'0 := yZ.1 0 _ rfl
          have o'1 := yZ.1 1 _ rfl
          have o'2 := yZ.1 2 _ rfl
          have o'3 := yZ.1 3 _ rfl
          have o'4 := yZ.1 4 _ rfl
          have o'5 := yZ.1 5 _ rfl
          have r0 := zZ.1 0 _ rfl
          have r1 := zZ.1 1 _ rfl
          have r2 := zZ.1 2 _ rfl
          have r3 := zZ.1 3 _ rfl
          have r4 := zZ.1 4 _ rfl
          have r5 := zZ.1 5 _ rfl
          have f0 := zZ.2.1 0
          have f1 := zZ.2.1 1
          have f2 := zZ.2.1 2
          have f3 := zZ.2.1 3
          have f4 := zZ.2.1 4
          have f5 := zZ.2.1 5
          rw [hZ] at o'0 o'1 o'2 o'3 o'4 o'5 r0 r1 r2 r3 r4 r5 f0 f1 f2 f3 f4 f5
          rw [hW7] at hrun
          clear x7 b7 c1' c2' c3' c4' c5' c6' c7' hfar hsz hbel hPP y7 yY z7 zY bY yZ zZ bZ hOW H3 H6 HC HS HK HI y2 hs1 hW7 h60
          go_wp2_with (at_builtin; refine append_known _ rfl (.tmp 38) (.tmp 40) 30 rfl _ _ _ _ rfl rfl hrun ?_)
          rw [← hZ] at r0 r1 r2 r3 r4 r5 ⊢
          clear hZ
          refine bodyPost_ret (v := .agg #[.int .i64 k.config, .int .i64 k.clock, .slice b1 k.places.length d1, .slice b2 k.machines.length d2, .slice a' (k.txs.length + 1) c', .bool k.lost]) (by simp [results, Tryz.results40, go_sem, r0, r1, r2, r3, r4, r5]) rfl ?_
          refine ⟨b1, d1, b2, d2, a', c', PP, .inl ⟨HX.out.1, ?_⟩, ?_, ?_⟩
          · rw [HX.out.2]; simp [pushTx]
          · rw [HX.out.2]
            exact (KE.out.1.low (by have := KE.out.2.2; omega)).keep (w' := putB Z (w.heap.size + 1) 0 [.int .i64 k.config, .int .i64 k.clock, .slice b1 k.places.length d1, .slice b2 k.machines.length d2, .slice a' (k.txs.length + 1) c', .bool k.lost]) (by rw [putB_size]; exact Nat.le_refl _) (fun q hq => putB_block (fun e => by have := (KE.out.1.of hq).1; have := KE.out.2.2; omega) _ _ _)
          · exact putB_below (w := w) (by omega) [.int .i64 k.config, .int .i64 k.clock, .slice b1 k.places.length d1, .slice b2 k.machines.length d2, .slice a' (k.txs.length + 1) c', .bool k.lost] Z 0 KE.out.2.1
set_option maxRecDepth 100000 in
set_option maxHeartbeats 2000000 in
theorem face_Begin (w : World) (b1 b2 b3 : Nat) (k : C6) (n : Int) (hg : HG w)
    (hC : ∀ X, X = (w.alloc (.cells #[.int .i64 0, .int .i64 0, .slice none 0 0, .slice none 0 0, .slice none 0 0, .bool false] 32)).alloc (.cells #[.int .i64 0] 2) → Calls Tryz.prog 39 #[.pointer (some ⟨b1, 0, none⟩), .pointer (some ⟨b2, 0, none⟩), .pointer (some ⟨b3, 0, none⟩)] X (DAns X k n)) :
    Calls Tryz.prog 38 #[.func (.func 39) #[] #[.pointer (some ⟨b1, 0, none⟩), .pointer (some ⟨b2, 0, none⟩), .pointer (some ⟨b3, 0, none⟩)]] w (FcAns w k n) := by
  have hmf : ∀ (fn : Fn) (first cap : Array Value) (w : World), (Instr.makeFunc fn first cap).run Tryz.prog w = .ok (.func fn first cap) w := fun _ _ _ _ => rfl
  obtain ⟨W1, hW1⟩ : ∃ X, X = (w.alloc (.cells #[.int .i64 0, .int .i64 0, .slice none 0 0, .slice none 0 0, .slice none 0 0, .bool false] 32)).alloc (.cells #[.int .i64 0] 2) := ⟨_, rfl⟩
  have hc := hC W1 hW1
  have b1' : Below w.heap.size w W1 := by rw [hW1]; exact ((Below.refl _ _).alloc (Nat.le_refl _) _).alloc (by simp) _
  have s1 : W1.heap.size = w.heap.size + 2 := by rw [hW1]; simp
  have x0 : Bx W1 w.heap.size [.int .i64 0, .int .i64 0, .slice none 0 0, .slice none 0 0, .slice none 0 0, .bool false] := by
    have := (Bx.made w [.int .i64 0, .int .i64 0, .slice none 0 0, .slice none 0 0, .slice none 0 0, .bool false] 32).later ((Below.refl _ _).alloc (Nat.le_refl _) (.cells #[.int .i64 0] 2))
    rw [hW1]; exact this
  have x1 : Bx W1 (w.heap.size + 1) [.int .i64 0] := by
    have h := Bx.made (w.alloc (.cells #[.int .i64 0, .int .i64 0, .slice none 0 0, .slice none 0 0, .slice none 0 0, .bool false] 32)) [.int .i64 0] 2
    rw [show (w.alloc (.cells #[.int .i64 0, .int .i64 0, .slice none 0 0, .slice none 0 0, .slice none 0 0, .bool false] 32)).heap.size = w.heap.size + 1 by simp] at h
    rw [hW1]; exact h
  have K : Hid (Below w.heap.size w W1 ∧ W1.heap.size = w.heap.size + 2 ∧ Bx W1 w.heap.size [.int .i64 0, .int .i64 0, .slice none 0 0, .slice none 0 0, .slice none 0 0, .bool false] ∧ Bx W1 (w.heap.size + 1) [.int .i64 0] ∧ HG W1) := ⟨b1', s1, x0, x1, hg.later b1'⟩
  clear b1' s1 x0 x1 hC hg
  go_enter_defers Tryz.func38, Tryz.ntmps38
  go_wp2_with fail
  rw [← hW1]
  clear hW1
  refine hc.mono ?_
  clear hc
  rintro e w2 ⟨a1, c1, a2, c2, a3, c3, P, hend, how, b2'⟩
  obtain ⟨k1, k2, k3, k4, k5⟩ := K.out
  have y0 := k3.later b2'
  have y1 := k4.later b2'
  have bw2 := bstep k1 b2'
  have hs2 := b2'.size
  rcases hend with ⟨rfl, rfl⟩ | ⟨hn, rfl⟩
  · obtain ⟨Y, hY⟩ : ∃ Y, Y = (putB w2 w.heap.size 0 [.int .i64 k.config, .int .i64 k.clock, .slice a1 k.places.length c1, .slice a2 k.machines.length c2, .slice a3 k.txs.length c3, .bool k.lost]).setCell ⟨w.heap.size + 1, 0, none⟩ (.int .i64 0) := ⟨_, rfl⟩
    have KE : Hid (FcAns w k 0 (.returned (.tuple #[.agg #[.int .i64 k.config, .int .i64 k.clock, .slice a1 k.places.length c1, .slice a2 k.machines.length c2, .slice a3 k.txs.length c3, .bool k.lost], .int .i64 0])) Y) := ⟨a1, c1, a2, c2, a3, c3, P, rfl, by rw [hY]; exact (KCl.Ow.low how (by omega)).keep (by simp [World.setCell, putB_size]) (fun q hq => (Below.heap_setCell _ _ _ _ (show q ≠ w.heap.size + 1 by have := (how.of hq).1; omega)).trans (putB_block (show q ≠ w.heap.size by have := (how.of hq).1; omega) _ _ _)), by rw [hY]; exact (putB_below (w := w) (Nat.le_refl _) _ _ _ bw2).setCell (p := ⟨w.heap.size + 1, 0, none⟩) (by show w.heap.size ≤ w.heap.size + 1; omega) _⟩
    have yb : Bx Y w.heap.size [.int .i64 k.config, .int .i64 k.clock, .slice a1 k.places.length c1, .slice a2 k.machines.length c2, .slice a3 k.txs.length c3, .bool k.lost] := by rw [hY]; exact (y0.put [.int .i64 k.config, .int .i64 k.clock, .slice a1 k.places.length c1, .slice a2 k.machines.length c2, .slice a3 k.txs.length c3, .bool k.lost] rfl).far (by omega) _
    have t0 : Y.cell? ⟨w.heap.size + 1, 0, none⟩ = some (.int .i64 0) := by rw [hY]; exact cell_set_same ((World.cell?_of_block (a := ⟨w.heap.size + 1, 0, none⟩) (putB_block (show w.heap.size + 1 ≠ w.heap.size by omega) _ _ _)).trans (y1.1 0 _ rfl))
    have z0 := yb.1 0 _ rfl
    have z1 := yb.1 1 _ rfl
    have z2 := yb.1 2 _ rfl
    have z3 := yb.1 3 _ rfl
    have z4 := yb.1 4 _ rfl
    have z5 := yb.1 5 _ rfl
    have r0 := y0.1 0 _ rfl
    have r1 := y0.1 1 _ rfl
    have r2 := y0.1 2 _ rfl
    have r3 := y0.1 3 _ rfl
    have r4 := y0.1 4 _ rfl
    have r5 := y0.1 5 _ rfl
    have f0 := y0.2.1 0
    have f1 := y0.2.1 1
    have f2 := y0.2.1 2
    have f3 := y0.2.1 3
    have f4 := y0.2.1 4
    have f5 := y0.2.1 5
    have s0 := y1.1 0 _ rfl
    have g0 := y1.2.1 0
    simp only [putB] at hY
    clear y0 y1 bw2 how k1 k2 k3 k4 k5 b2' hs2 K yb
    go_wp2
    rw [← hY]
    clear hY r0 r1 r2 r3 r4 r5 f0 f1 f2 f3 f4 f5 s0 g0
    refine leaves_cons (f := 88) (args := #[.pointer (some ⟨w.heap.size, 0, none⟩), .pointer (some ⟨w.heap.size + 1, 0, none⟩)]) (by simp) (by simp [go_sem]) ?_
    refine (face1_idle w.heap.size (w.heap.size + 1) Y).mono ?_
    rintro e u' w'' ⟨rfl, rfl, rfl⟩
    simp only [Leaves, settle]
    refine ⟨.tuple #[.agg #[.int .i64 k.config, .int .i64 k.clock, .slice a1 k.places.length c1, .slice a2 k.machines.length c2, .slice a3 k.txs.length c3, .bool k.lost], .int .i64 0], by simp [results, Tryz.results38, go_sem, z0, z1, z2, z3, z4, z5, t0], KE.out⟩
  · have cF := face1_panicking w.heap.size (w.heap.size + 1) n k.config k.clock a1 k.places.length c1 a2 k.machines.length c2 a3 k.txs.length c3 k.lost [.int .i64 0, .int .i64 0, .slice none 0 0, .slice none 0 0, .slice none 0 0, .bool false] (.int .i64 0) w2 (k5.later b2') rfl y0 y1 (by omega)
    have KX : Hid (Bx w2 w.heap.size [.int .i64 0, .int .i64 0, .slice none 0 0, .slice none 0 0, .slice none 0 0, .bool false] ∧ Bx w2 (w.heap.size + 1) [.int .i64 0] ∧ Below w.heap.size w w2 ∧ KCl.Ow w2 W1.heap.size a1 c1 a2 c2 a3 c3 k P ∧ W1.heap.size = w.heap.size + 2) := ⟨y0, y1, bw2, how, k2⟩
    clear y0 y1 bw2 how k1 k2 k3 k4 k5 b2' hs2 K
    go_wp2
    refine leaves_cons (f := 88) (args := #[.pointer (some ⟨w.heap.size, 0, none⟩), .pointer (some ⟨w.heap.size + 1, 0, none⟩)]) (by simp) (by simp [go_sem]) ?_
    refine cF.mono ?_
    rintro e u' w3 ⟨rfl, rfl, X, bX, hY⟩
    obtain ⟨y0, y1, bw2, how, k2⟩ := KX.out
    have how' := how.later bX
    have y0' := y0.later bX
    have y1' := y1.later bX
    have KE : Hid (FcAns w k n (.returned (.tuple #[.agg #[.int .i64 k.config, .int .i64 k.clock, .slice a1 k.places.length c1, .slice a2 k.machines.length c2, .slice a3 k.txs.length c3, .bool k.lost], .int .i64 n])) w3) := ⟨a1, c1, a2, c2, a3, c3, P, rfl, by rw [hY]; exact (KCl.Ow.low how' (by omega)).keep (by simp [World.setCell, putB_size]) (fun q hq => (Below.heap_setCell _ _ _ _ (show q ≠ w.heap.size + 1 by have := (how.of hq).1; omega)).trans (putB_block (show q ≠ w.heap.size by have := (how.of hq).1; omega) _ _ _)), by rw [hY]; exact (putB_below (w := w) (Nat.le_refl _) _ _ _ (bstep bw2 bX)).setCell (p := ⟨w.heap.size + 1, 0, none⟩) (by show w.heap.size ≤ w.heap.size + 1; omega) _⟩
    have yb : Bx w3 w.heap.size [.int .i64 k.config, .int .i64 k.clock, .slice a1 k.places.length c1, .slice a2 k.machines.length c2, .slice a3 k.txs.length c3, .bool k.lost] := by rw [hY]; exact (y0'.put [.int .i64 k.config, .int .i64 k.clock, .slice a1 k.places.length c1, .slice a2 k.machines.length c2, .slice a3 k.txs.length c3, .bool k.lost] rfl).far (by omega) _
    have t0 : w3.cell? ⟨w.heap.size + 1, 0, none⟩ = some (.int .i64 n) := by rw [hY]; exact cell_set_same ((World.cell?_of_block (a := ⟨w.heap.size + 1, 0, none⟩) (putB_block (show w.heap.size + 1 ≠ w.heap.size by omega) _ _ _)).trans (y1'.1 0 _ rfl))
    have z0 := yb.1 0 _ rfl
    have z1 := yb.1 1 _ rfl
    have z2 := yb.1 2 _ rfl
    have z3 := yb.1 3 _ rfl
    have z4 := yb.1 4 _ rfl
    have z5 := yb.1 5 _ rfl
    simp only [settle]
    refine ⟨.tuple #[.agg #[.int .i64 k.config, .int .i64 k.clock, .slice a1 k.places.length c1, .slice a2 k.machines.length c2, .slice a3 k.txs.length c3, .bool k.lost], .int .i64 n], by simp [results, Tryz.results38, go_sem, z0, z1, z2, z3, z4, z5, t0], KE.out⟩
set_option maxRecDepth 100000 in
set_option maxHeartbeats 2000000 in
theorem begin1_any (w : World) (q1 q2 q3 : Nat) (a1 : Option Addr) (c1 : Nat) (a2 : Option Addr) (c2 : Nat) (a3 : Option Addr) (c3 : Nat) (k : C6) (y h : Int) (hl : KCl.L k) (hr : KCl.Rd w a1 c1 a2 c2 a3 c3 k) (x1 : Bx w q1 [.int .i64 k.config, .int .i64 k.clock, .slice a1 k.places.length c1, .slice a2 k.machines.length c2, .slice a3 k.txs.length c3, .bool k.lost]) (x2 : Bx w q2 [.int .i64 y]) (x3 : Bx w q3 [.int .i64 h]) :
    Calls Tryz.prog 39 #[.pointer (some ⟨q1, 0, none⟩), .pointer (some ⟨q2, 0, none⟩), .pointer (some ⟨q3, 0, none⟩)] w (DAns w (begK k y h) (begC k y h)) := by
  obtain ⟨W0, hW0⟩ : ∃ Y, Y = w.alloc (.cells #[.int .i64 0, .int .i64 0, .slice none 0 0, .slice none 0 0, .slice none 0 0, .bool false] 32) := ⟨_, rfl⟩
  have b0 : Below w.heap.size w W0 := by rw [hW0]; exact (Below.refl _ _).alloc (Nat.le_refl _) _
  have x0 : Bx W0 w.heap.size [.int .i64 0, .int .i64 0, .slice none 0 0, .slice none 0 0, .slice none 0 0, .bool false] := by rw [hW0]; exact Bx.made w [.int .i64 0, .int .i64 0, .slice none 0 0, .slice none 0 0, .slice none 0 0, .bool false] _
  have hc := begin_any W0 a1 c1 a2 c2 a3 c3 k y h hl (hr.later b0)
  have y1 := x1.later b0
  have p0 := y1.1 0 _ rfl
  have p1 := y1.1 1 _ rfl
  have p2 := y1.1 2 _ rfl
  have p3 := y1.1 3 _ rfl
  have p4 := y1.1 4 _ rfl
  have p5 := y1.1 5 _ rfl
  have p6 := (x2.later b0).1 0 _ rfl
  have p7 := (x3.later b0).1 0 _ rfl
  have H : Hid (Below w.heap.size w W0 ∧ Bx W0 w.heap.size [.int .i64 0, .int .i64 0, .slice none 0 0, .slice none 0 0, .slice none 0 0, .bool false]) := ⟨b0, x0⟩
  rw [hW0] at p0 p1 p2 p3 p4 p5 p6 p7
  clear b0 x0 y1 hr x1 x2 x3 hl
  go_enter Tryz.func39, Tryz.ntmps39
  go_wp2_with fail
  rw [← hW0]
  clear hW0
  refine hc.mono ?_
  clear hc p0 p1 p2 p3 p4 p5 p6 p7
  generalize begK k y h = N at *
  generalize begC k y h = n at *
  rintro e w1 ⟨e1, g1, e2, g2, e3, g3, PP, hend, how, b1⟩
  obtain ⟨k1, k2⟩ := H.out
  rcases hend with ⟨rfl, rfl⟩ | ⟨hn, rfl⟩
  · have y0 := k2.later b1
    have r0 := y0.1 0 _ rfl
    have r1 := y0.1 1 _ rfl
    have r2 := y0.1 2 _ rfl
    have r3 := y0.1 3 _ rfl
    have r4 := y0.1 4 _ rfl
    have r5 := y0.1 5 _ rfl
    have f0 := y0.2.1 0
    have f1 := y0.2.1 1
    have f2 := y0.2.1 2
    have f3 := y0.2.1 3
    have f4 := y0.2.1 4
    have f5 := y0.2.1 5
    have KE : Hid (KCl.Ow w1 W0.heap.size e1 g1 e2 g2 e3 g3 N PP ∧ Below w.heap.size w w1 ∧ w.heap.size < W0.heap.size) := ⟨how, bstep k1 b1, k2.2.2⟩
    clear y0 how b1 k1 k2 H
    go_wp2
    refine bodyPost_ret (v := .agg #[.int .i64 N.config, .int .i64 N.clock, .slice e1 N.places.length g1, .slice e2 N.machines.length g2, .slice e3 N.txs.length g3, .bool N.lost]) (by simp [results, Tryz.results39, go_sem, r0, r1, r2, r3, r4, r5]) rfl ?_
    refine ⟨e1, g1, e2, g2, e3, g3, PP, .inl ⟨rfl, rfl⟩, ?_, ?_⟩
    · exact (KE.out.1.low (Nat.le_of_lt KE.out.2.2)).keep (w' := putB w1 w.heap.size 0 [.int .i64 N.config, .int .i64 N.clock, .slice e1 N.places.length g1, .slice e2 N.machines.length g2, .slice e3 N.txs.length g3, .bool N.lost]) (by rw [putB_size]; exact Nat.le_refl _) (fun q hq => putB_block (fun e => by have := (KE.out.1.of hq).1; have := KE.out.2.2; omega) _ _ _)
    · exact putB_below (w := w) (Nat.le_refl _) [.int .i64 N.config, .int .i64 N.clock, .slice e1 N.places.length g1, .slice e2 N.machines.length g2, .slice e3 N.txs.length g3, .bool N.lost] w1 0 KE.out.2.1
  · have KE : Hid (KCl.Ow w1 w.heap.size e1 g1 e2 g2 e3 g3 N PP ∧ Below w.heap.size w w1) := ⟨how.low k1.size, bstep k1 b1⟩
    clear how b1 k1 k2 H
    go_wp2
    exact ⟨rfl, e1, g1, e2, g2, e3, g3, PP, .inr ⟨hn, rfl⟩, KE.out.1, KE.out.2⟩
set_option maxRecDepth 100000 in
set_option maxHeartbeats 2000000 in
theorem implBegin_any (w : World) (a1 : Option Addr) (c1 : Nat) (a2 : Option Addr) (c2 : Nat) (a3 : Option Addr) (c3 : Nat) (k : C6) (y h : Int) (hl : KCl.L k) (hr : KCl.Rd w a1 c1 a2 c2 a3 c3 k) (hg : HG w) :
    Calls Tryz.prog 12 #[.agg #[.int .i64 k.config, .int .i64 k.clock, .slice a1 k.places.length c1, .slice a2 k.machines.length c2, .slice a3 k.txs.length c3, .bool k.lost], .int .i64 y, .int .i64 h] w (FcAns w (begK k y h) (begC k y h)) := by
  have hmf : ∀ (fn : Fn) (first cap : Array Value) (w : World), (Instr.makeFunc fn first cap).run Tryz.prog w = .ok (.func fn first cap) w := fun _ _ _ _ => rfl
  obtain ⟨V1, hV1⟩ : ∃ Y, Y = w.alloc (.cells #[.int .i64 k.config, .int .i64 k.clock, .slice a1 k.places.length c1, .slice a2 k.machines.length c2, .slice a3 k.txs.length c3, .bool k.lost] 32) := ⟨_, rfl⟩
  obtain ⟨V2, hV2⟩ : ∃ Y, Y = V1.alloc (.cells #[.int .i64 y] 2) := ⟨_, rfl⟩
  obtain ⟨V3, hV3⟩ : ∃ Y, Y = V2.alloc (.cells #[.int .i64 h] 2) := ⟨_, rfl⟩
  obtain ⟨W0, hW0⟩ : ∃ Y, Y = V3.alloc (.cells #[.int .i64 0, .int .i64 0, .slice none 0 0, .slice none 0 0, .slice none 0 0, .bool false] 32) := ⟨_, rfl⟩
  have v1 : Below w.heap.size w V1 := by rw [hV1]; exact (Below.refl _ _).alloc (Nat.le_refl _) _
  have v2 : Below V1.heap.size V1 V2 := by rw [hV2]; exact (Below.refl _ _).alloc (Nat.le_refl _) _
  have v3 : Below V2.heap.size V2 V3 := by rw [hV3]; exact (Below.refl _ _).alloc (Nat.le_refl _) _
  have v4 : Below V3.heap.size V3 W0 := by rw [hW0]; exact (Below.refl _ _).alloc (Nat.le_refl _) _
  have s1 : V1.heap.size = w.heap.size + 1 := by rw [hV1]; simp
  have s2 : V2.heap.size = w.heap.size + 2 := by rw [hV2]; simp [s1]
  have s3 : V3.heap.size = w.heap.size + 3 := by rw [hV3]; simp [s2]
  have s0 : W0.heap.size = w.heap.size + 4 := by rw [hW0]; simp [s3]
  have b0 : Below w.heap.size w W0 := bstep (bstep (bstep v1 v2) v3) v4
  have x0 : Bx W0 w.heap.size [.int .i64 k.config, .int .i64 k.clock, .slice a1 k.places.length c1, .slice a2 k.machines.length c2, .slice a3 k.txs.length c3, .bool k.lost] := ((show Bx V1 w.heap.size [.int .i64 k.config, .int .i64 k.clock, .slice a1 k.places.length c1, .slice a2 k.machines.length c2, .slice a3 k.txs.length c3, .bool k.lost] by rw [hV1]; exact Bx.made w [.int .i64 k.config, .int .i64 k.clock, .slice a1 k.places.length c1, .slice a2 k.machines.length c2, .slice a3 k.txs.length c3, .bool k.lost] _).later (bstep (bstep v2 v3) v4))
  have x1 : Bx W0 (w.heap.size + 1) [.int .i64 y] := by
    have q : Bx V2 V1.heap.size [.int .i64 y] := by rw [hV2]; exact Bx.made V1 [.int .i64 y] _
    rw [s1] at q; exact q.later (bstep v3 v4)
  have x2 : Bx W0 (w.heap.size + 2) [.int .i64 h] := by
    have q : Bx V3 V2.heap.size [.int .i64 h] := by rw [hV3]; exact Bx.made V2 [.int .i64 h] _
    rw [s2] at q; exact q.later v4
  have x3 : Bx W0 (w.heap.size + 3) [.int .i64 0, .int .i64 0, .slice none 0 0, .slice none 0 0, .slice none 0 0, .bool false] := by
    have q : Bx W0 V3.heap.size [.int .i64 0, .int .i64 0, .slice none 0 0, .slice none 0 0, .slice none 0 0, .bool false] := by rw [hW0]; exact Bx.made V3 [.int .i64 0, .int .i64 0, .slice none 0 0, .slice none 0 0, .slice none 0 0, .bool false] _
    rw [s3] at q; exact q
  rw [hV3, hV2, hV1] at hW0
  have hf := face_Begin W0 w.heap.size (w.heap.size + 1) (w.heap.size + 2) (begK k y h) (begC k y h) (hg.later b0) (fun X hX => by
    have bX : Below W0.heap.size W0 X := by rw [hX]; exact ((Below.refl _ _).alloc (Nat.le_refl _) _).alloc (by simp) _
    exact begin1_any X w.heap.size (w.heap.size + 1) (w.heap.size + 2) a1 c1 a2 c2 a3 c3 k y h hl (hr.later (bstep b0 bX)) (x0.later bX) (x1.later bX) (x2.later bX))
  have H : Hid (Below w.heap.size w W0 ∧ Bx W0 (w.heap.size + 3) [.int .i64 0, .int .i64 0, .slice none 0 0, .slice none 0 0, .slice none 0 0, .bool false] ∧ W0.heap.size = w.heap.size + 4) := ⟨b0, x3, s0⟩
  clear b0 s0 s1 s2 s3 x0 x1 x2 x3 hr hg hl v1 v2 v3 v4 hV1 hV2 hV3
  go_enter Tryz.func12, Tryz.ntmps12
  go_wp2_with fail
  rw [← hW0]
  clear hW0
  refine hf.mono ?_
  clear hf
  rintro e w3 ⟨e1, g1, e2, g2, e3, g3, PP, rfl, how, b3⟩
  have y0 := H.out.2.1.later b3
  have r0 := y0.1 0 _ rfl
  have r1 := y0.1 1 _ rfl
  have r2 := y0.1 2 _ rfl
  have r3 := y0.1 3 _ rfl
  have r4 := y0.1 4 _ rfl
  have r5 := y0.1 5 _ rfl
  have f0 := y0.2.1 0
  have f1 := y0.2.1 1
  have f2 := y0.2.1 2
  have f3 := y0.2.1 3
  have f4 := y0.2.1 4
  have f5 := y0.2.1 5
  have KE : Hid (KCl.Ow w3 W0.heap.size e1 g1 e2 g2 e3 g3 (begK k y h) PP ∧ Below w.heap.size w w3 ∧ W0.heap.size = w.heap.size + 4) := ⟨how, bstep H.out.1 b3, H.out.2.2⟩
  clear y0 how b3 H
  generalize begK k y h = N at *
  generalize begC k y h = n at *
  go_wp2
  refine bodyPost_ret (v := .tuple #[.agg #[.int .i64 N.config, .int .i64 N.clock, .slice e1 N.places.length g1, .slice e2 N.machines.length g2, .slice e3 N.txs.length g3, .bool N.lost], .int .i64 n]) (by simp [results, Tryz.results12, go_sem, r0, r1, r2, r3, r4, r5]) rfl ?_
  refine ⟨e1, g1, e2, g2, e3, g3, PP, rfl, ?_, ?_⟩
  · exact (KE.out.1.low (by have := KE.out.2.2; omega)).keep (w' := putB w3 (w.heap.size + 3) 0 [.int .i64 N.config, .int .i64 N.clock, .slice e1 N.places.length g1, .slice e2 N.machines.length g2, .slice e3 N.txs.length g3, .bool N.lost]) (by rw [putB_size]; exact Nat.le_refl _) (fun q hq => putB_block (fun e => by have := (KE.out.1.of hq).1; have := KE.out.2.2; omega) _ _ _)
  · exact putB_below (w := w) (by omega) [.int .i64 N.config, .int .i64 N.clock, .slice e1 N.places.length g1, .slice e2 N.machines.length g2, .slice e3 N.txs.length g3, .bool N.lost] w3 0 KE.out.2.1
end Go.Proofs.YtnhjgomfkfehgaaGreatDoor
namespace Go.Proofs.YtnhjgomfkfehgaaGreatDoor
open Go.ChangeShapes Go.WideShapes Go.ChangeAt Go.RowKit
def S5.cells (s : S5) : List Value := [.int .i64 s.region, .int .i64 s.slot, .int .i64 s.value, .bool s.used, .int .i64 s.version]
def S5.wf (s : S5) : Prop := (Lit.int .i64 s.region).wf = true ∧ (Lit.int .i64 s.slot).wf = true ∧ (Lit.int .i64 s.value).wf = true ∧ (Lit.int .i64 s.version).wf = true
theorem list5 {α : Type} {cs : List α} (h : cs.length = 5) : ∃ c0 c1 c2 c3 c4, cs = [c0, c1, c2, c3, c4] := by
  match cs, h with
  | [c0, c1, c2, c3, c4], _ => exact ⟨c0, c1, c2, c3, c4, rfl⟩
theorem cells_set : Tryz.prog.cellsOf 234 = 5 := by kernel_rfl
theorem cells_int : Tryz.prog.cellsOf 2 = 1 := by kernel_rfl
theorem cells_bool : Tryz.prog.cellsOf 4 = 1 := by kernel_rfl
theorem open_set {H : Type} {enc : TypeId × Value → H} {w : World} {base : Nat} {spare : Nat → Bool} {held : Bool} {fuel : Nat} {cs : List Value} {x : DataW H × List MemPlace}
    (h : DataW.trod enc Tryz.prog w base spare held fuel 234 cs = some x) : ∃ s : S5, cs = s.cells ∧ s.wf := by
  obtain ⟨xs, n, _, rfl, hl, hlen, hf⟩ := DataW.trod_struct Tryz.underlying234 h
  rw [cells_set] at hl
  obtain ⟨c0, c1, c2, c3, c4, rfl⟩ := list5 hl
  obtain ⟨y0, y1, y2, y3, y4, rfl⟩ := list5 hlen
  have h0 := hf 0 _ rfl
  have h1 := hf 1 _ rfl
  have h2 := hf 2 _ rfl
  have h3 := hf 3 _ rfl
  have h4 := hf 4 _ rfl
  simp [cells_int, cells_bool] at h0 h1 h2 h3 h4
  obtain ⟨z0, e0, _, f0⟩ := DataW.trod_int Tryz.underlying2 h0
  obtain ⟨z1, e1, _, f1⟩ := DataW.trod_int Tryz.underlying2 h1
  obtain ⟨z2, e2, _, f2⟩ := DataW.trod_int Tryz.underlying2 h2
  obtain ⟨z3, e3, _⟩ := DataW.trod_bool Tryz.underlying4 h3
  obtain ⟨z4, e4, _, f4⟩ := DataW.trod_int Tryz.underlying2 h4
  simp at e0 e1 e2 e3 e4
  subst e0 e1 e2 e3 e4
  exact ⟨⟨z0, z1, z2, z3, z4⟩, rfl, f0, f1, f2, f4⟩
end Go.Proofs.YtnhjgomfkfehgaaGreatDoor
namespace Go.Proofs.YtnhjgomfkfehgaaGreatDoor
open Go.ChangeShapes Go.WideShapes Go.ChangeAt Go.RowKit Go.Deep
theorem list2 {α : Type} {cs : List α} (h : cs.length = 2) : ∃ c0 c1, cs = [c0, c1] := by
  match cs, h with
  | [c0, c1], _ => exact ⟨c0, c1, rfl⟩
theorem cells_cell : Tryz.prog.cellsOf 314 = 2 := by kernel_rfl
theorem cells_num : Tryz.prog.cellsOf 2 = 1 := by kernel_rfl
theorem open_cell {H : Type} {enc : TypeId × Value → H} {w : World} {base : Nat} {spare : Nat → Bool} {held : Bool} {fuel : Nat} {cs : List Value} {x : DataW H × List MemPlace}
    (h : DataW.trod enc Tryz.prog w base spare held fuel 314 cs = some x) : ∃ s : C2, cs = s.cells := by
  obtain ⟨xs, n, _, rfl, hl, hlen, hf⟩ := DataW.trod_struct Tryz.underlying314 h
  rw [cells_cell] at hl
  obtain ⟨c0, c1, rfl⟩ := list2 hl
  obtain ⟨y0, y1, rfl⟩ := list2 hlen
  have h0 := hf 0 _ rfl
  have h1 := hf 1 _ rfl
  simp [cells_num] at h0 h1
  obtain ⟨z0, e0, _, _⟩ := DataW.trod_int Tryz.underlying2 h0
  obtain ⟨z1, e1, _, _⟩ := DataW.trod_int Tryz.underlying2 h1
  simp at e0 e1
  subst e0 e1
  exact ⟨⟨z0, z1⟩, rfl⟩
theorem some_of {α : Type} {p : Nat → α → Prop} (n : Nat) (h : ∀ i, i < n → ∃ x, p i x) : ∃ xs : List α, xs.length = n ∧ ∀ i x, xs[i]? = some x → p i x := by
  induction n with
  | zero => exact ⟨[], rfl, fun i x e => by simp at e⟩
  | succ n ih =>
    obtain ⟨xs, hl, hx⟩ := ih fun i hi => h i (by omega)
    obtain ⟨y, hy⟩ := h n (by omega)
    refine ⟨xs ++ [y], by simp [hl], fun i x e => ?_⟩
    by_cases hi : i < xs.length
    · rw [List.getElem?_append_left hi] at e
      exact hx i x e
    · rw [List.getElem?_append_right (by omega)] at e
      have : i = xs.length := by
        by_cases h2 : i - xs.length = 0
        · omega
        · rw [List.getElem?_eq_none (by simp; omega)] at e; cases e
      subst this
      simp at e
      subst e
      rw [hl]; exact hy
end Go.Proofs.YtnhjgomfkfehgaaGreatDoor