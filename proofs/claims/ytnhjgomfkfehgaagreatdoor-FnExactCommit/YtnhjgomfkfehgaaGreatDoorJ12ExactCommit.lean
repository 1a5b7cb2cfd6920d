/- DedP; SpcD; DedQ; ComI; KdMm; KdTm; NumHeld; MkH0; KdMn; KdTn; ComS; Opens; OpenCells; OpenMac; YOpenTx; OpenCl: joined. -/
import Derived.Test.YtnhjgomfkfehgaaGreatDoorRows
import Derived.Test.YtnhjgomfkfehgaaGreatDoorJ11ExactCommit
import Derived.WalkKit
import Derived.WalkSpells
import Derived.WalkLawsBesides
import Derived.Below
import Derived.Lib.QuietBelow
import Derived.BigQuiet
import Derived.Deep.CutRange
import Derived.LaidEql
import Derived.Stop.Asserts
import Derived.RowKitTokens
import Derived.Deep.Upon
import Derived.Deep.RegionWith
import Derived.Test.YtnhjgomfkfehgaaGreatDoorJ8ExactCommit
import Derived.Test.YtnhjgomfkfehgaaGreatDoorJ9ExactCommit
import Derived.Test.YtnhjgomfkfehgaaGreatDoorJ7ExactCommit
import Derived.Test.YtnhjgomfkfehgaaGreatDoorJ3ExactCommit
import Derived.Test.YtnhjgomfkfehgaaGreatDoorJ4ExactCommit
import Derived.Test.YtnhjgomfkfehgaaGreatDoorJ2ExactCommit
import Derived.ProofKit
import Derived.OpenShut
import Derived.Deep.Slices
import Derived.Lib.SmallJoins
import Derived.Test.YtnhjgomfkfehgaaGreatDoorJ5ExactCommit
namespace Go.Proofs.YtnhjgomfkfehgaaGreatDoor
open Go.RowKit
open Go.Sort (grow)
theorem Kd.Part.put {D V : Type} {K : Kd D V} {X : World} {B b n : Nat} {ys : List D} {g : Nat → Nat → Prop} (h : K.Part X B b n ys g) {i : Nat} (hi : i < ys.length) (hn : ys.length ≤ n) (v : V) (d : D) (Q : Nat → Prop) (ho : K.Ow X B v d Q) (hne : ∀ q, Q q → q ≠ b) (hap : ∀ j q, j < ys.length → g j q → ¬ Q q) :
    K.Part (putB X b (i * K.n) (K.cells v d)) B b n (ys.set i d) (fun j => if j = i then Q else g j) := by
  have hs : (putB X b (i * K.n) (K.cells v d)).heap.size = X.heap.size := putB_size _ _ _ _
  have hk : ∀ q, q ≠ b → (putB X b (i * K.n) (K.cells v d)).heap[q]? = X.heap[q]? := fun q hq => putB_block hq _ _ _
  have hc : i * K.n + K.n ≤ n * K.n := by rw [← Nat.succ_mul]; exact Nat.mul_le_mul_right _ (by omega)
  refine ⟨putB_room _ _ _ h.rm, fun j e hj => ?_, fun j q hj hq => ?_, fun j l q hj hl hjl h1 h2 => ?_⟩
  · by_cases hji : j = i
    · subst hji
      rw [List.getElem?_set_self hi] at hj
      obtain rfl := Option.some.inj hj
      refine ⟨v, fun t u hu => ?_, by simp only [if_pos]; exact K.keep ho (Nat.le_of_eq hs.symm) (fun q hq => hk q (hne q hq))⟩
      refine putB_cell _ _ _ (fun t h1 h2 => ?_) t u hu
      rw [K.len] at h2
      obtain ⟨z, hz, _⟩ := h.rm t (by omega)
      exact ⟨z, hz⟩
    · rw [List.getElem?_set_ne (fun e => hji e.symm)] at hj
      obtain ⟨v', h1, h2⟩ := h.at_ j e hj
      have hjl := (List.getElem?_eq_some_iff.1 hj).1
      refine ⟨v', fun t u hu => ?_, by simp only [if_neg hji]; exact K.keep h2 (Nat.le_of_eq hs.symm) (fun q hq => hk q (h.ne j q hjl hq))⟩
      have ht : t < K.n := by have := (List.getElem?_eq_some_iff.1 hu).1; rwa [K.len] at this
      refine (putB_out _ _ _ ?_).trans (h1 t u hu)
      rw [K.len]
      rcases Nat.lt_or_gt_of_ne hji with hlt | hgt
      · have := Nat.mul_le_mul_right K.n (Nat.succ_le_of_lt hlt); rw [Nat.succ_mul] at this; left; omega
      · have := Nat.mul_le_mul_right K.n (Nat.succ_le_of_lt hgt); rw [Nat.succ_mul] at this; right; omega
  · rw [List.length_set] at hj
    by_cases e : j = i
    · simp only [if_pos e] at hq; exact hne q hq
    · simp only [if_neg e] at hq; exact h.ne j q hj hq
  · rw [List.length_set] at hj hl
    by_cases e1 : j = i
    · by_cases e2 : l = i
      · omega
      · simp only [if_pos e1] at h1; simp only [if_neg e2] at h2; exact hap l q hl h2 h1
    · by_cases e2 : l = i
      · simp only [if_neg e1] at h1; simp only [if_pos e2] at h2; exact hap j q hj h1 h2
      · simp only [if_neg e1] at h1; simp only [if_neg e2] at h2; exact h.ap j l q hj hl hjl h1 h2
theorem KT.Ow.head {w : World} {B : Nat} {a : Option Addr} {b : Nat} {c : Option Addr} {d : Nat} {t : tx.T7} {P : Nat → Prop} (h : KT.Ow w B a b c d t P) (x1 x2 x3 x4 x5 : Int) : KT.Ow w B a b c d ⟨x1, x2, x3, x4, t.reads, t.sets, x5⟩ P := by
  obtain ⟨PR, PS, h1, h2, h3⟩ := h
  exact ⟨PR, PS, ⟨h1.r, h1.s, h1.rs, h1.rB, h1.sB⟩, h2, h3⟩
def setTx (k : C6) (i : Nat) (t : tx.T7) : C6 := ⟨k.config, k.clock, k.places, k.machines, k.txs.set i t, k.lost⟩
theorem clStore {Y : World} {B base p : Nat} {b1 : Option Addr} {d1 : Nat} {b2 : Option Addr} {d2 : Nat} {b3 : Option Addr} {d3 : Nat} {k : C6} {ps : List ((Nat × Nat) × List Int)} {gp : Nat → Nat → Prop} {ms : List (MV × M4)} {gm : Nat → Nat → Prop} {ts : List (tx.TV × tx.T7)} {gt : Nat → Nat → Prop}
    (hr : CL3 base p Y (.slice b1 k.places.length d1) (.slice b2 k.machines.length d2) (.slice b3 k.txs.length d3) ps gp ms gm ts gt) (e1 : ps.map (·.2) = k.places) (e2 : ms.map (·.2) = k.machines) (e3 : ts.map (·.2) = k.txs) {i : Nat} (hi : i < k.txs.length) (u0 : Option Addr) (u1 : Nat) (u2 : Option Addr) (u3 : Nat) (t' : tx.T7) (Q : Nat → Prop) (ho : KT.Ow Y B u0 u1 u2 u3 t' Q) (hB : B ≤ base) (hQ : ∀ q, Q q → q < base) :
    ∃ b, b3 = some ⟨b, 0, none⟩ ∧ base ≤ b ∧ b < Y.heap.size ∧ b ≠ p ∧ Room Y b (k.txs.length * 7) ∧ (∀ q, Q q → q ≠ b) ∧ ∃ P, (∀ q, P q → Q q ∨ base ≤ q) ∧ KCl.Ow (putB Y b (i * 7) (KTk.cells ⟨u0, u1, u2, u3⟩ t')) B b1 d1 b2 d2 b3 d3 (setTx k i t') P := by
  have ho1 := placesOwn hr.P e1
  have ho2 := hr.M.own e2
  have ho3 := hr.T.own e3
  obtain ⟨h3, hb3⟩ := ho3
  rcases h3 with h3 | ⟨b, g, rfl, hp, hpt, hg⟩
  · rw [h3] at hi; simp at hi
  have hbb := hb3 b hp
  have hgB : ∀ j q, j < k.txs.length → g j q → base ≤ q := fun j q hj hq => (hb3 q (hg j q hj hq)).1
  have hput := Kd.Part.put (K := KTk) (⟨hpt.rm, fun j d hj => by obtain ⟨v, h1, h2⟩ := hpt.at_ j d hj; exact ⟨v, h1, KTk.low h2 hB⟩, hpt.ne, hpt.ap⟩ : KTk.Part Y B b k.txs.length k.txs g) hi (Nat.le_refl _) ⟨u0, u1, u2, u3⟩ t' Q ho (fun q hq e => by have := hQ q hq; omega) (fun j q hj hq hq' => by have := hQ q hq'; have := hgB j q hj hq; omega)
  have far : ∀ q, q ≠ b → (putB Y b (i * 7) (KTk.cells ⟨u0, u1, u2, u3⟩ t')).heap[q]? = Y.heap[q]? := fun q hq => putB_block hq _ _ _
  have hsz : (putB Y b (i * 7) (KTk.cells ⟨u0, u1, u2, u3⟩ t')).heap.size = Y.heap.size := putB_size _ _ _ _
  have hbT : Kd.blk (.slice (some ⟨b, 0, none⟩) k.txs.length d3) ts gt b := .inl rfl
  have o1 : KP.Ow (putB Y b (i * 7) (KTk.cells ⟨u0, u1, u2, u3⟩ t')) B b1 k.places _ := (ho1.low hB).keep (Nat.le_of_eq hsz.symm) (fun q hq => far q (fun e => by subst e; exact hr.pt q hq hbT))
  have o2 : KMk.OwS (putB Y b (i * 7) (KTk.cells ⟨u0, u1, u2, u3⟩ t')) B b2 k.machines _ := (ho2.low hB).keep (Nat.le_of_eq hsz.symm) (fun q hq => far q (fun e => by subst e; exact hr.mt q hq hbT))
  refine ⟨b, rfl, hbb.1, hbb.2, hr.tp b hbT, hpt.rm, fun q hq e => by have := hQ q hq; omega, fun q => Kd.blk (.slice b1 k.places.length d1) ps gp q ∨ Kd.blk (.slice b2 k.machines.length d2) ms gm q ∨ (q = b ∨ (∃ j, j < k.txs.length ∧ j ≠ i ∧ g j q) ∨ Q q), fun q hq => by
    rcases hq with hq | hq | rfl | ⟨j, hj, _, hq⟩ | hq
    · exact .inr (hr.P.blocks hq).1
    · exact .inr (hr.M.blocks hq).1
    · exact .inr hbb.1
    · exact .inr (hb3 q (hg j q hj hq)).1
    · exact .inl hq, ⟨_, _, fun q => q = b ∨ (∃ j, j < k.txs.length ∧ j ≠ i ∧ g j q) ∨ Q q, o1, o2, ⟨.inr ⟨b, fun j => if j = i then Q else g j, rfl, .inl rfl, ?_, fun j q hj hq => ?_⟩, fun q hq => ?_⟩, fun _ hq => .inl hq, fun _ hq => .inr (.inl hq), fun _ hq => .inr (.inr hq), hr.pm, fun q hq hq' => ?_, fun q hq hq' => ?_⟩, fun q hq => ?_⟩
  · have : (k.txs.set i t').length = k.txs.length := by simp
    show KTk.Part _ B b (k.txs.set i t').length (k.txs.set i t') _
    rw [this]; exact hput
  · have hj' : j < k.txs.length := by simpa [setTx] using hj
    by_cases e : j = i
    · simp only [if_pos e] at hq; exact .inr (.inr hq)
    · simp only [if_neg e] at hq; exact .inr (.inl ⟨j, hj', e, hq⟩)
  · rw [hsz]
    rcases hq with rfl | ⟨j, hj, _, hq⟩ | hq
    · exact ⟨by omega, hbb.2⟩
    · have := hb3 q (hg j q hj hq); exact ⟨by omega, this.2⟩
    · exact ho.of hq
  · rcases hq' with rfl | ⟨j, hj, _, hx⟩ | hx
    · exact hr.pt q hq hbT
    · exact hr.pt q hq (hg j q hj hx)
    · have := (hr.P.blocks hq).1; have := hQ q hx; omega
  · rcases hq' with rfl | ⟨j, hj, _, hx⟩ | hx
    · exact hr.mt q hq hbT
    · exact hr.mt q hq (hg j q hj hx)
    · have := (hr.M.blocks hq).1; have := hQ q hx; omega
  · rw [hsz]
    rcases hq with hq | hq | rfl | ⟨j, hj, _, hq⟩ | hq
    · have := hr.P.blocks hq; exact ⟨by omega, this.2⟩
    · have := hr.M.blocks hq; exact ⟨by omega, this.2⟩
    · exact ⟨by omega, hbb.2⟩
    · have := hb3 q (hg j q hj hq); exact ⟨by omega, this.2⟩
    · exact ho.of hq
set_option maxRecDepth 100000 in
set_option maxHeartbeats 2000000 in
theorem runningDeed_any (w : World) (a1 : Option Addr) (c1 : Nat) (a2 : Option Addr) (c2 : Nat) (a3 : Option Addr) (c3 : Nat) (k : C6) (y : Int) (hl : KCl.L k) (h : KCl.Rd w a1 c1 a2 c2 a3 c3 k) :
    Calls Tryz.prog 53 #[.agg #[.int .i64 k.config, .int .i64 k.clock, .slice a1 k.places.length c1, .slice a2 k.machines.length c2, .slice a3 k.txs.length c3, .bool k.lost], .int .i64 y] w (DedAns w a1 c1 a2 c2 a3 c3 k y (runC k y)) := by
  obtain ⟨W0, hW0⟩ : ∃ Y, Y = w.alloc (.cells #[.int .i64 k.config, .int .i64 k.clock, .slice a1 k.places.length c1, .slice a2 k.machines.length c2, .slice a3 k.txs.length c3, .bool k.lost] 32) := ⟨_, rfl⟩
  have b0 : Below w.heap.size w W0 := by rw [hW0]; exact (Below.refl _ _).alloc (Nat.le_refl _) _
  have hc := deedOf_any W0 a1 c1 a2 c2 a3 c3 k y hl (h.later b0)
  have H : Hid (Below w.heap.size w W0 ∧ KCl.Rd w a1 c1 a2 c2 a3 c3 k) := ⟨b0, h⟩
  clear b0 h hl
  go_enter Tryz.func53, Tryz.ntmps53
  go_wp2_with fail
  rw [← hW0]
  clear hW0
  refine hc.mono ?_
  clear hc
  rintro e w1 (⟨hn, hr⟩ | ⟨hz, d, u0, u1, u2, u3, P, rfl, hbx, how, hpd, hdw, b1⟩)
  · have HX : Hid (DedAns w a1 c1 a2 c2 a3 c3 k y (runC k y) e w1) := .inl ⟨by simp [runC, hn], by rw [show runC k y = codeB k y by simp [runC, hn]]; exact hr.low H.out.1⟩
    obtain ⟨b1, d1, b2, d2, b3, d3, P, rfl, -, -⟩ := hr
    go_wp2
    exact ⟨rfl, HX.out⟩
  · have hk : clusterB k = true := by
      cases hk : clusterB k with
      | true => rfl
      | false => simp [codeB, hk] at hz
    have K1 : Hid (Bx w1 d [.int .i64 k.config, .int .i64 k.clock, .slice a1 k.places.length c1, .slice a2 k.machines.length c2, .slice a3 k.txs.length c3, .bool k.lost, .int .i64 (atId k.txs y), .int .i64 (txAt k y).id, .int .i64 (txAt k y).home, .int .i64 (txAt k y).phase, .int .i64 (txAt k y).count, .slice u0 (txAt k y).reads.length u1, .slice u2 (txAt k y).sets.length u3, .int .i64 (txAt k y).stamp] ∧ KT.Ow w1 w.heap.size u0 u1 u2 u3 (txAt k y) P ∧ (∀ q, P q → q ≠ d) ∧ w.heap.size ≤ d ∧ Below w.heap.size w w1 ∧ KCl.Rd w1 a1 c1 a2 c2 a3 c3 k) := ⟨hbx, how.low H.out.1.size, hpd, Nat.le_trans H.out.1.size hdw, bstep H.out.1 b1, H.out.2.later (bstep H.out.1 b1)⟩
    have p9 := hbx.1 9 _ rfl
    clear hbx how hpd hdw b1
    by_cases hph : (txAt k y).phase = 1
    · have hrun : runC k y = 0 := by simp [runC, hz, hph]
      have HZ := hidOf hrun
      rw [hph] at p9
      clear hz hrun hph
      go_wp2
      go_ret
      exact .inr ⟨HZ.out, d, u0, u1, u2, u3, P, rfl, K1.out.1, K1.out.2.1, K1.out.2.2.1, K1.out.2.2.2.1, K1.out.2.2.2.2.1⟩
    · have hrun : runC k y = 4 := by simp [runC, hz, hph]
      have hne : ((txAt k y).phase != 1) = true := by simpa using hph
      have hleft : leftC k = k := by simp [leftC, hk]
      have HX : Hid (∀ e w', RAns w1 k 4 e w' → DedAns w a1 c1 a2 c2 a3 c3 k y (runC k y) e w') := fun e w' h => .inl ⟨by rw [hrun]; decide, by rw [hrun, hleft]; exact h.low K1.out.2.2.2.2.1⟩
      have hrf := dRefuse_any w1 d a1 c1 a2 c2 a3 c3 k [.int .i64 (atId k.txs y), .int .i64 (txAt k y).id, .int .i64 (txAt k y).home, .int .i64 (txAt k y).phase, .int .i64 (txAt k y).count, .slice u0 (txAt k y).reads.length u1, .slice u2 (txAt k y).sets.length u3, .int .i64 (txAt k y).stamp] 4 hk K1.out.2.2.2.2.2 K1.out.1
      clear hz hrun hph hleft hk
      go_wp2_with fail
      refine hrf.mono ?_
      clear hrf
      intro e w6 hr
      have hr' := hr
      obtain ⟨b1, d1, b2, d2, b3, d3, P, rfl, -, -⟩ := hr
      have HR := hidOf hr'
      clear hr'
      go_wp2
      exact ⟨rfl, HX.out _ _ HR.out⟩
def runI (k : C6) (y : Int) : Int := if runC k y = 0 then (atId k.txs y : Int) else -1
theorem runI_no {k : C6} {y : Int} (h : runC k y ≠ 0) : runI k y = -1 := if_neg h
theorem runI_yes {k : C6} {y : Int} (h : runC k y = 0) : runI k y = (atId k.txs y : Int) := if_pos h
set_option maxRecDepth 100000 in
set_option maxHeartbeats 2000000 in
theorem l9No_any (w : World) (a1 : Option Addr) (c1 : Nat) (a2 : Option Addr) (c2 : Nat) (a3 : Option Addr) (c3 : Nat) (k : C6) (n : Int) (h : KCl.Rd w a1 c1 a2 c2 a3 c3 k) (hk : clusterB k = true ∨ n = 1) (hn : clusterB k = true → n ≠ 1) :
    Calls Tryz.prog 30 #[.agg #[.int .i64 k.config, .int .i64 k.clock, .slice a1 k.places.length c1, .slice a2 k.machines.length c2, .slice a3 k.txs.length c3, .bool k.lost], .int .i64 n] w (FcAns w (leftC k) n) := by
  obtain ⟨W0, hW0⟩ : ∃ Y, Y = (w.alloc (.cells #[.int .i64 k.config, .int .i64 k.clock, .slice a1 k.places.length c1, .slice a2 k.machines.length c2, .slice a3 k.txs.length c3, .bool k.lost] 32)).alloc (.cells #[.int .i64 0, .int .i64 0, .slice none 0 0, .slice none 0 0, .slice none 0 0, .bool false] 32) := ⟨_, rfl⟩
  have b0 : Below w.heap.size w W0 := by rw [hW0]; exact ((Below.refl _ _).alloc (Nat.le_refl _) _).alloc (by simp) _
  have s0 : W0.heap.size = w.heap.size + 2 := by rw [hW0]; simp
  have x0 : Bx W0 w.heap.size [.int .i64 k.config, .int .i64 k.clock, .slice a1 k.places.length c1, .slice a2 k.machines.length c2, .slice a3 k.txs.length c3, .bool k.lost] := by
    have := (Bx.made w [.int .i64 k.config, .int .i64 k.clock, .slice a1 k.places.length c1, .slice a2 k.machines.length c2, .slice a3 k.txs.length c3, .bool k.lost] 32).later ((Below.refl _ _).alloc (Nat.le_refl _) (.cells #[.int .i64 0, .int .i64 0, .slice none 0 0, .slice none 0 0, .slice none 0 0, .bool false] 32))
    rw [hW0]; exact this
  have x1 : Bx W0 (w.heap.size + 1) [.int .i64 0, .int .i64 0, .slice none 0 0, .slice none 0 0, .slice none 0 0, .bool false] := by
    have h := Bx.made (w.alloc (.cells #[.int .i64 k.config, .int .i64 k.clock, .slice a1 k.places.length c1, .slice a2 k.machines.length c2, .slice a3 k.txs.length c3, .bool k.lost] 32)) [.int .i64 0, .int .i64 0, .slice none 0 0, .slice none 0 0, .slice none 0 0, .bool false] 32
    rw [show (w.alloc (.cells #[.int .i64 k.config, .int .i64 k.clock, .slice a1 k.places.length c1, .slice a2 k.machines.length c2, .slice a3 k.txs.length c3, .bool k.lost] 32)).heap.size = w.heap.size + 1 by simp] at h
    rw [hW0]; exact h
  have H : Hid (Below w.heap.size w W0 ∧ W0.heap.size = w.heap.size + 2 ∧ Bx W0 (w.heap.size + 1) [.int .i64 0, .int .i64 0, .slice none 0 0, .slice none 0 0, .slice none 0 0, .bool false]) := ⟨b0, s0, x1⟩
  cases hkb : clusterB k with
  | false =>
    obtain rfl : n = 1 := by rcases hk with h1 | h1; rw [h1] at hkb; cases hkb; exact h1
    have hleft : leftC k = zC := by simp [leftC, hkb]
    have HL := hidOf hleft
    have r0 := x1.1 0 _ rfl
    have r1 := x1.1 1 _ rfl
    have r2 := x1.1 2 _ rfl
    have r3 := x1.1 3 _ rfl
    have r4 := x1.1 4 _ rfl
    have r5 := x1.1 5 _ rfl
    have f0 := x1.2.1 0
    have f1 := x1.2.1 1
    have f2 := x1.2.1 2
    have f3 := x1.2.1 3
    have f4 := x1.2.1 4
    have f5 := x1.2.1 5
    have q0 := r0
    have q1 := r1
    have q2 := r2
    have q3 := r3
    have q4 := r4
    have q5 := r5
    rw [hW0] at r0 r1 r2 r3 r4 r5 f0 f1 f2 f3 f4 f5
    clear b0 s0 x0 x1 h hk hn hleft hkb
    go_enter Tryz.func30, Tryz.ntmps30
    go_wp2
    rw [← hW0]
    refine bodyPost_ret (v := .tuple #[.agg #[.int .i64 0, .int .i64 0, .slice none 0 0, .slice none 0 0, .slice none 0 0, .bool false], .int .i64 1]) (by simp [results, Tryz.results30, go_sem, q0, q1, q2, q3, q4, q5]) rfl ?_
    rw [HL.out]
    refine ⟨none, 0, none, 0, none, 0, fun _ => False, rfl, zC_ow _ _, ?_⟩
    exact H.out.1
  | true =>
    have hne := hn hkb
    have hleft : leftC k = k := by simp [leftC, hkb]
    have HL := hidOf hleft
    have hb : (n == 1) = false := by simpa using hne
    have hc := l8Copy_any W0 a1 c1 a2 c2 a3 c3 k hkb (h.later b0)
    have p0 := x0.1 0 _ rfl
    have p1 := x0.1 1 _ rfl
    have p2 := x0.1 2 _ rfl
    have p3 := x0.1 3 _ rfl
    have p4 := x0.1 4 _ rfl
    have p5 := x0.1 5 _ rfl
    rw [hW0] at p0 p1 p2 p3 p4 p5
    clear b0 s0 x0 x1 h hk hn hleft hkb hne
    go_enter Tryz.func30, Tryz.ntmps30
    go_wp2_with fail
    rw [← hW0]
    clear hW0 p0 p1 p2 p3 p4 p5
    refine hc.mono ?_
    clear hc
    rintro e w1 ⟨b1, d1, b2, d2, b3, d3, ps, gp, ms, gm, ts, gt, rfl, hr, e1, e2, e3, bl⟩
    obtain ⟨h1, h2, h3⟩ := H.out
    have y0 := h3.later bl
    have r0 := y0.1 0 _ rfl
    have r1 := y0.1 1 _ rfl
    have r2 := y0.1 2 _ rfl
    have r3 := y0.1 3 _ rfl
    have r4 := y0.1 4 _ rfl
    have r5 := y0.1 5 _ rfl
    have f0 := y0.2.1 0
    have f1 := y0.2.1 1
    have f2 := y0.2.1 2
    have f3 := y0.2.1 3
    have f4 := y0.2.1 4
    have f5 := y0.2.1 5
    have KE : Hid (KCl.Ow w1 (W0.heap.size + 3) b1 d1 b2 d2 b3 d3 k (fun q => Kd.blk (.slice b1 k.places.length d1) ps gp q ∨ Kd.blk (.slice b2 k.machines.length d2) ms gm q ∨ Kd.blk (.slice b3 k.txs.length d3) ts gt q) ∧ Below w.heap.size w w1 ∧ W0.heap.size = w.heap.size + 2) := ⟨hr.ow e1 e2 e3, bstep h1 bl, h2⟩
    clear hr e1 e2 e3 bl y0 h1 h2 h3 H
    go_wp2
    refine bodyPost_ret (v := .tuple #[.agg #[.int .i64 k.config, .int .i64 k.clock, .slice b1 k.places.length d1, .slice b2 k.machines.length d2, .slice b3 k.txs.length d3, .bool k.lost], .int .i64 n]) (by simp [results, Tryz.results30, go_sem, r0, r1, r2, r3, r4, r5]) rfl ?_
    rw [HL.out]
    refine ⟨b1, d1, b2, d2, b3, d3, _, rfl, (KE.out.1.low (show w.heap.size ≤ _ by have := KE.out.2.2; omega)).keep (w' := putB w1 (w.heap.size + 1) 0 [.int .i64 k.config, .int .i64 k.clock, .slice b1 k.places.length d1, .slice b2 k.machines.length d2, .slice b3 k.txs.length d3, .bool k.lost]) (by rw [putB_size]; exact Nat.le_refl _) (fun q hq => putB_block (fun e => by have := (KE.out.1.of hq).1; have := KE.out.2.2; omega) _ _ _), ?_⟩
    exact putB_below (w := w) (by omega) [.int .i64 k.config, .int .i64 k.clock, .slice b1 k.places.length d1, .slice b2 k.machines.length d2, .slice b3 k.txs.length d3, .bool k.lost] w1 0 KE.out.2.1
set_option maxRecDepth 100000 in
set_option maxHeartbeats 2000000 in
theorem l9Runs_any (w : World) (a1 : Option Addr) (c1 : Nat) (a2 : Option Addr) (c2 : Nat) (a3 : Option Addr) (c3 : Nat) (k : C6) (y : Int) (hl : KCl.L k) (h : KCl.Rd w a1 c1 a2 c2 a3 c3 k) :
    Calls Tryz.prog 50 #[.agg #[.int .i64 k.config, .int .i64 k.clock, .slice a1 k.places.length c1, .slice a2 k.machines.length c2, .slice a3 k.txs.length c3, .bool k.lost], .int .i64 y] w fun e w' => e = .returned (.tuple #[.int .i64 (runI k y), .int .i64 (runC k y)]) ∧ Below w.heap.size w w' := by
  obtain ⟨W0, hW0⟩ : ∃ Y, Y = w.alloc (.cells #[.int .i64 k.config, .int .i64 k.clock, .slice a1 k.places.length c1, .slice a2 k.machines.length c2, .slice a3 k.txs.length c3, .bool k.lost] 32) := ⟨_, rfl⟩
  have b0 : Below w.heap.size w W0 := by rw [hW0]; exact (Below.refl _ _).alloc (Nat.le_refl _) _
  have x0 : Bx W0 w.heap.size [.int .i64 k.config, .int .i64 k.clock, .slice a1 k.places.length c1, .slice a2 k.machines.length c2, .slice a3 k.txs.length c3, .bool k.lost] := by rw [hW0]; exact Bx.made w [.int .i64 k.config, .int .i64 k.clock, .slice a1 k.places.length c1, .slice a2 k.machines.length c2, .slice a3 k.txs.length c3, .bool k.lost] _
  have hc := specClusterOk_any W0 a1 c1 a2 c2 a3 c3 k hl (h.later b0)
  have p0 := x0.1 0 _ rfl
  have p1 := x0.1 1 _ rfl
  have p2 := x0.1 2 _ rfl
  have p3 := x0.1 3 _ rfl
  have p4 := x0.1 4 _ rfl
  have p5 := x0.1 5 _ rfl
  have H : Hid (Below w.heap.size w W0 ∧ Bx W0 w.heap.size [.int .i64 k.config, .int .i64 k.clock, .slice a1 k.places.length c1, .slice a2 k.machines.length c2, .slice a3 k.txs.length c3, .bool k.lost] ∧ KCl.Rd W0 a1 c1 a2 c2 a3 c3 k ∧ KCl.L k) := ⟨b0, x0, h.later b0, hl⟩
  rw [hW0] at p0 p1 p2 p3 p4 p5
  clear b0 x0 h hl
  go_enter Tryz.func50, Tryz.ntmps50
  go_wp2_with fail
  rw [← hW0]
  clear hW0 p0 p1 p2 p3 p4 p5
  refine hc.mono ?_
  clear hc
  rintro e w1 ⟨rfl, b1⟩
  have B1 : Hid (Below w.heap.size w w1 ∧ Bx w1 w.heap.size [.int .i64 k.config, .int .i64 k.clock, .slice a1 k.places.length c1, .slice a2 k.machines.length c2, .slice a3 k.txs.length c3, .bool k.lost] ∧ KCl.Rd w1 a1 c1 a2 c2 a3 c3 k) := ⟨bstep H.out.1 b1, H.out.2.1.later b1, H.out.2.2.1.later b1⟩
  clear b1
  cases hk : clusterB k with
  | false =>
    have hr : runC k y = 1 := by simp [runC, codeB, hk]
    have HR := hidOf hr
    clear hr
    go_wp2
    refine bodyPost_ret (v := .tuple #[.int .i64 (-1), .int .i64 1]) (by simp [results, Tryz.results50, go_sem]) rfl ?_
    exact ⟨by rw [runI_no (by rw [HR.out]; decide), HR.out], B1.out.1⟩
  | true =>
    have hf := l8Find_any w1 a1 c1 a2 c2 a3 c3 k y H.out.2.2.2 B1.out.2.2
    have q0 := B1.out.2.1.1 0 _ rfl
    have q1 := B1.out.2.1.1 1 _ rfl
    have q2 := B1.out.2.1.1 2 _ rfl
    have q3 := B1.out.2.1.1 3 _ rfl
    have q4 := B1.out.2.1.1 4 _ rfl
    have q5 := B1.out.2.1.1 5 _ rfl
    have HK := hidOf hk
    clear hk
    go_wp2_with fail
    refine hf.mono ?_
    clear hf q0 q1 q2 q3 q4 q5
    rintro e w2 ⟨⟨z, rfl, hfirst⟩, b2⟩
    have B2 : Hid (Below w.heap.size w w2 ∧ Bx w2 w.heap.size [.int .i64 k.config, .int .i64 k.clock, .slice a1 k.places.length c1, .slice a2 k.machines.length c2, .slice a3 k.txs.length c3, .bool k.lost] ∧ KCl.Rd w2 a1 c1 a2 c2 a3 c3 k) := ⟨bstep B1.out.1 b2, B1.out.2.1.later b2, B1.out.2.2.later b2⟩
    clear b2 B1
    rcases atId_first hfirst with ⟨rfl, hat⟩ | ⟨i, rfl, hi, hat⟩
    · have hr : runC k y = 2 := by simp [runC, codeB, HK.out, hat]
      have HR := hidOf hr
      clear hr hat hfirst
      go_wp2
      refine bodyPost_ret (v := .tuple #[.int .i64 (-1), .int .i64 2]) (by simp [results, Tryz.results50, go_sem]) rfl ?_
      exact ⟨by rw [runI_no (by rw [HR.out]; decide), HR.out], B2.out.1⟩
    · clear hfirst
      obtain ⟨hm0, hm1⟩ := clu_home HK.out hi
      obtain ⟨hm, hhm⟩ : ∃ m : Nat, (atT k.txs i).home = (m : Int) := ⟨(atT k.txs i).home.toNat, by omega⟩
      have hml : hm < k.machines.length := by omega
      have hcode : codeB k y = if (atM k.machines hm).alive = true then 0 else 3 := by simp only [codeB, HK.out, if_true, hat, hi, homeB, txAt, hhm, Int.toNat_natCast]
      have HC : Hid (codeB k y = (if (atM k.machines hm).alive = true then 0 else 3) ∧ atId k.txs y = i ∧ txAt k y = atT k.txs i) := ⟨hcode, hat, by rw [txAt, hat]⟩
      rcases B2.out.2.2.t with e0 | ⟨b, off, rfl, hb, hrd⟩
      · rw [e0] at hi; simp at hi
      obtain ⟨⟨t0, t1, t2, t3⟩, hel, -⟩ := hrd i _ (atT_of hi)
      rcases B2.out.2.2.m with e0 | ⟨mb, mo, rfl, hmb, hmrd⟩
      · rw [e0] at hml; simp at hml
      obtain ⟨⟨m0, m1, m2, m3, m4, m5⟩, hmel, -⟩ := hmrd hm _ (atM_of hml)
      have g1 : w2.cell? ⟨b, off + i * 7 + 1, none⟩ = some (.int .i64 (hm : Int)) := by rw [← hhm]; exact hel 1 _ rfl
      have g2 : w2.cell? ⟨b, off + i * 7 + 2, none⟩ = some (.int .i64 (atT k.txs i).phase) := hel 2 _ rfl
      have g3 : w2.cell? ⟨mb, mo + hm * 4, none⟩ = some (.bool (atM k.machines hm).alive) := hmel 0 _ rfl
      have q3 := B2.out.2.1.1 3 _ rfl
      have q4 := B2.out.2.1.1 4 _ rfl
      have jn : (i : Int) < (k.txs.length : Int) := by omega
      have jm : (hm : Int) < (k.machines.length : Int) := by omega
      have dn : decide ((i : Int) < 0) = false := by simp
      have x1 : ∀ dd os, (grow (redrawn w2 dd) os).cell? ⟨b, off + i * 7 + 1, none⟩ = some (.int .i64 (hm : Int)) := fun dd os => ((below_regrown w2 dd os).cell (p := ⟨b, off + i * 7 + 1, none⟩) hb).trans g1
      have x3 : ∀ dd os, (grow (redrawn w2 dd) os).cell? ⟨mb, mo + hm * 4, none⟩ = some (.bool (atM k.machines hm).alive) := fun dd os => ((below_regrown w2 dd os).cell (p := ⟨mb, mo + hm * 4, none⟩) hmb).trans g3
      have x4 : ∀ dd os, (grow (redrawn w2 dd) os).cell? ⟨w.heap.size, 3, none⟩ = some (.slice (some ⟨mb, mo, none⟩) k.machines.length c2) := fun dd os => (B2.out.2.1.later (below_regrown w2 dd os)).1 3 _ rfl
      have x5 : ∀ dd os, (grow (redrawn w2 dd) os).cell? ⟨w.heap.size, 4, none⟩ = some (.slice (some ⟨b, off, none⟩) k.txs.length c3) := fun dd os => (B2.out.2.1.later (below_regrown w2 dd os)).1 4 _ rfl
      have HG2 : Hid (w2.cell? ⟨b, off + i * 7 + 2, none⟩ = some (.int .i64 (atT k.txs i).phase) ∧ b < w2.heap.size) := ⟨g2, hb⟩
      clear hm0 hm1 hcode hat hrd hel hmrd hmel g1 g2 g3 hhm q3 q4 hb hmb
      go_wp2_with fail
      refine wp_region_quiet_below (by kernel_rfl) (by kernel_rfl) ?_
      repeat (go_big_quiet_step (fail))
      refine wpQuiet_nil ?_
      intro _ hw'
      obtain ⟨⟨dq, osq⟩, hw''⟩ := hw'
      subst hw''
      have bq := below_regrown w2 dq osq
      have B3 : Hid (Below w.heap.size w (grow (redrawn w2 dq) osq)) := bstep B2.out.1 bq
      have y4 := x5 dq osq
      have y2 : (grow (redrawn w2 dq) osq).cell? ⟨b, off + i * 7 + 2, none⟩ = some (.int .i64 (atT k.txs i).phase) := (bq.cell (p := ⟨b, off + i * 7 + 2, none⟩) HG2.out.2).trans HG2.out.1
      clear bq x1 x3 x4 x5 B2 HG2
      generalize grow (redrawn w2 dq) osq = w3 at *
      cases hal : (atM k.machines hm).alive with
      | false =>
        have hr : runC k y = 3 := by
          have : codeB k y = 3 := by rw [HC.out.1, hal]; rfl
          simp [runC, this]
        have HR := hidOf hr
        clear hr
        go_wp2
        refine bodyPost_ret (v := .tuple #[.int .i64 (-1), .int .i64 3]) (by simp [results, Tryz.results50, go_sem]) rfl ?_
        exact ⟨by rw [runI_no (by rw [HR.out]; decide), HR.out], B3.out⟩
      | true =>
        have hc0 : codeB k y = 0 := by rw [HC.out.1, hal]; rfl
        by_cases hph : (atT k.txs i).phase = 1
        · have hr : runC k y = 0 := by simp [runC, hc0, HC.out.2.2, hph]
          have HR := hidOf hr
          rw [hph] at y2
          clear hr hc0 hph
          go_wp2
          refine bodyPost_ret (v := .tuple #[.int .i64 (i : Int), .int .i64 0]) (by simp [results, Tryz.results50, go_sem]) rfl ?_
          exact ⟨by rw [runI_yes HR.out, HR.out, HC.out.2.1], B3.out⟩
        · have hr : runC k y = 4 := by simp [runC, hc0, HC.out.2.2, hph]
          have HR := hidOf hr
          have hne : ((atT k.txs i).phase != 1) = true := by simpa using hph
          clear hr hc0 hph
          go_wp2
          refine bodyPost_ret (v := .tuple #[.int .i64 (-1), .int .i64 4]) (by simp [results, Tryz.results50, go_sem]) rfl ?_
          exact ⟨by rw [runI_no (by rw [HR.out]; decide), HR.out], B3.out⟩
def COw (X : World) (B : Nat) (k : C6) (e : Ending) (w' : World) : Prop := ∃ (a1 : Option Addr) (c1 : Nat) (a2 : Option Addr) (c2 : Nat) (a3 : Option Addr) (c3 : Nat) (P : Nat → Prop), e = .returned (.agg #[.int .i64 k.config, .int .i64 k.clock, .slice a1 k.places.length c1, .slice a2 k.machines.length c2, .slice a3 k.txs.length c3, .bool k.lost]) ∧ KCl.Ow w' B a1 c1 a2 c2 a3 c3 k P ∧ Below X.heap.size X w'
set_option maxRecDepth 100000 in
set_option maxHeartbeats 2000000 in
theorem done_any (w : World) (B d : Nat) (a1 : Option Addr) (c1 : Nat) (a2 : Option Addr) (c2 : Nat) (a3 : Option Addr) (c3 : Nat) (k : C6) (i : Nat) (t' : tx.T7) (u0 : Option Addr) (u1 : Nat) (u2 : Option Addr) (u3 : Nat) (P : Nat → Prop) (hk : clusterB k = true) (hi : i < k.txs.length) (h : KCl.Rd w a1 c1 a2 c2 a3 c3 k) (hd : Bx w d [.int .i64 k.config, .int .i64 k.clock, .slice a1 k.places.length c1, .slice a2 k.machines.length c2, .slice a3 k.txs.length c3, .bool k.lost, .int .i64 (i : Int), .int .i64 t'.id, .int .i64 t'.home, .int .i64 t'.phase, .int .i64 t'.count, .slice u0 t'.reads.length u1, .slice u2 t'.sets.length u3, .int .i64 t'.stamp]) (ho : KT.Ow w B u0 u1 u2 u3 t' P) (hB : B ≤ w.heap.size) :
    Calls Tryz.prog 57 #[.pointer (some ⟨d, 0, none⟩)] w (COw w B (setTx k i t')) := by
  obtain ⟨W0, hW0⟩ : ∃ Y, Y = w.alloc (.cells #[.int .i64 0, .int .i64 0, .slice none 0 0, .slice none 0 0, .slice none 0 0, .bool false] 32) := ⟨_, rfl⟩
  have b0 : Below w.heap.size w W0 := by rw [hW0]; exact (Below.refl _ _).alloc (Nat.le_refl _) _
  have x0 : Bx W0 w.heap.size [.int .i64 0, .int .i64 0, .slice none 0 0, .slice none 0 0, .slice none 0 0, .bool false] := by rw [hW0]; exact Bx.made w [.int .i64 0, .int .i64 0, .slice none 0 0, .slice none 0 0, .slice none 0 0, .bool false] _
  have d0 := hd.later b0
  have p0 := d0.1 0 _ rfl
  have p1 := d0.1 1 _ rfl
  have p2 := d0.1 2 _ rfl
  have p3 := d0.1 3 _ rfl
  have p4 := d0.1 4 _ rfl
  have p5 := d0.1 5 _ rfl
  have hc := ownCluster_any W0 a1 c1 a2 c2 a3 c3 k hk (h.later b0)
  have n60 := (CSm.of hk).t
  have H : Hid (Below w.heap.size w W0 ∧ Bx W0 w.heap.size [.int .i64 0, .int .i64 0, .slice none 0 0, .slice none 0 0, .slice none 0 0, .bool false] ∧ Bx W0 d [.int .i64 k.config, .int .i64 k.clock, .slice a1 k.places.length c1, .slice a2 k.machines.length c2, .slice a3 k.txs.length c3, .bool k.lost, .int .i64 (i : Int), .int .i64 t'.id, .int .i64 t'.home, .int .i64 t'.phase, .int .i64 t'.count, .slice u0 t'.reads.length u1, .slice u2 t'.sets.length u3, .int .i64 t'.stamp] ∧ KT.Ow W0 B u0 u1 u2 u3 t' P ∧ B ≤ w.heap.size ∧ (∀ q, P q → q < w.heap.size) ∧ d < w.heap.size) := ⟨b0, x0, d0, ho.later b0, hB, fun q hq => (ho.of hq).2, hd.2.2⟩
  rw [hW0] at p0 p1 p2 p3 p4 p5
  clear b0 x0 d0 h hd ho hB hk
  go_enter Tryz.func57, Tryz.ntmps57
  go_wp2_with fail
  rw [← hW0]
  clear hW0
  refine hc.mono ?_
  clear hc
  rintro e w1 ⟨b1, d1, b2, d2, b3, d3, ps, gp, ms, gm, ts, gt, rfl, hr, e1, e2, e3, bl⟩
  clear p0 p1 p2 p3 p4 p5
  obtain ⟨W2, hW2⟩ : ∃ Y, Y = w1.alloc (.cells #[.int .i64 k.config, .int .i64 k.clock, .slice b1 k.places.length d1, .slice b2 k.machines.length d2, .slice b3 k.txs.length d3, .bool k.lost] 32) := ⟨_, rfl⟩
  have bb2 : Below w1.heap.size w1 W2 := by rw [hW2]; exact (Below.refl _ _).alloc (Nat.le_refl _) _
  have x2 : Bx W2 w1.heap.size [.int .i64 k.config, .int .i64 k.clock, .slice b1 k.places.length d1, .slice b2 k.machines.length d2, .slice b3 k.txs.length d3, .bool k.lost] := by rw [hW2]; exact Bx.made w1 [.int .i64 k.config, .int .i64 k.clock, .slice b1 k.places.length d1, .slice b2 k.machines.length d2, .slice b3 k.txs.length d3, .bool k.lost] _
  obtain ⟨hw0, hx0, hd0, ho0, hB, hPq, hdw⟩ := H.out
  have bd : Below W2.heap.size W2 W2.drew := (Below.refl _ _).drew
  have bW : Below W0.heap.size W0 W2.drew := bstep (bstep bl bb2) bd
  have hW0s : w.heap.size < W0.heap.size := hx0.2.2
  obtain ⟨b, hb3, hb1, hb2', hbp, hroom, hQb, PP, hPP, hOW⟩ := clStore (hr.later (bstep bb2 bd)) e1 e2 e3 hi u0 u1 u2 u3 t' P (ho0.later bW) (show B ≤ W0.heap.size + 3 by omega) (fun q hq => by have := hPq q hq; omega)
  subst hb3
  have hSX : (fun X : World => Bx X w1.heap.size [.int .i64 k.config, .int .i64 k.clock, .slice b1 k.places.length d1, .slice b2 k.machines.length d2, .slice (some ⟨b, 0, none⟩) k.txs.length d3, .bool k.lost] ∧ Bx X d [.int .i64 k.config, .int .i64 k.clock, .slice a1 k.places.length c1, .slice a2 k.machines.length c2, .slice a3 k.txs.length c3, .bool k.lost, .int .i64 (i : Int), .int .i64 t'.id, .int .i64 t'.home, .int .i64 t'.phase, .int .i64 t'.count, .slice u0 t'.reads.length u1, .slice u2 t'.sets.length u3, .int .i64 t'.stamp]) W2.drew := ⟨x2.later bd, hd0.later bW⟩
  have HP : Hid (∀ q, PP q → q ≠ w.heap.size) := fun q hq e => by rcases hPP q hq with h | h; have := hPq q h; omega; omega
  have jn : (i : Int) < (k.txs.length : Int) := by omega
  have r0 : ∀ j, j < 7 → ∃ v, W2.drew.cell? ⟨b, i * 7 + j, none⟩ = some v ∧ W2.drew.frozen? ⟨b, i * 7 + j, none⟩ = false := fun j hj => hroom (i * 7 + j) (by omega)
  have hne1 : b ≠ w1.heap.size := fun e => by have := hbp; have hs := bl.size; have hc := (hr.T.blocks (.inl (by rfl : (Value.slice (some ⟨b, 0, none⟩) k.txs.length d3).ownBlock = some b))).2; omega
  have hne0 : b ≠ w.heap.size := fun e => by omega
  have KH : Hid (KCl.Ow (putB W2.drew b (i * 7) (KTk.cells ⟨u0, u1, u2, u3⟩ t')) B b1 d1 b2 d2 (some ⟨b, 0, none⟩) d3 (setTx k i t') PP ∧ Below w.heap.size w W2.drew ∧ Bx W2.drew w1.heap.size [.int .i64 k.config, .int .i64 k.clock, .slice b1 k.places.length d1, .slice b2 k.machines.length d2, .slice (some ⟨b, 0, none⟩) k.txs.length d3, .bool k.lost] ∧ Bx W2.drew w.heap.size [.int .i64 0, .int .i64 0, .slice none 0 0, .slice none 0 0, .slice none 0 0, .bool false] ∧ w.heap.size ≤ b ∧ b ≠ w1.heap.size ∧ b ≠ w.heap.size ∧ w.heap.size < w1.heap.size) := ⟨hOW, bstep hw0 bW, hSX.1, hx0.later bW, by omega, hne1, hne0, by have := bl.size; omega⟩
  obtain ⟨v0, g0, f0⟩ := r0 0 (by omega)
  obtain ⟨v1, g1, f1⟩ := r0 1 (by omega)
  obtain ⟨v2, g2, f2⟩ := r0 2 (by omega)
  obtain ⟨v3, g3, f3⟩ := r0 3 (by omega)
  obtain ⟨v4, g4, f4⟩ := r0 4 (by omega)
  obtain ⟨v5, g5, f5⟩ := r0 5 (by omega)
  obtain ⟨v6, g6, f6⟩ := r0 6 (by omega)
  rw [Nat.add_zero] at g0 f0
  clear bb2 x2 hw0 hx0 hd0 ho0 hB hPq hdw bd bW hW0s hb1 hb2' hbp hroom hQb hOW hPP r0 hr e1 e2 e3 bl H hne1 hne0
  go_wp2_with fail
  rw [← hW2]
  clear hW2
  refine wp_region_until 11 (fun X : World => Bx X w1.heap.size [.int .i64 k.config, .int .i64 k.clock, .slice b1 k.places.length d1, .slice b2 k.machines.length d2, .slice (some ⟨b, 0, none⟩) k.txs.length d3, .bool k.lost] ∧ Bx X d [.int .i64 k.config, .int .i64 k.clock, .slice a1 k.places.length c1, .slice a2 k.machines.length c2, .slice a3 k.txs.length c3, .bool k.lost, .int .i64 (i : Int), .int .i64 t'.id, .int .i64 t'.home, .int .i64 t'.phase, .int .i64 t'.count, .slice u0 t'.reads.length u1, .slice u2 t'.sets.length u3, .int .i64 t'.stamp]) (by kernel_rfl) ?_
  generalize W2.drew = XD at *
  refine wpUntil_take (i := 0) (v := ?_) rfl (by kernel_rfl) (fun _ _ _ h => h) (Or.inl ⟨by rfl, ?_⟩) hSX ?_
  rotate_left
  · (intro w hSw; go_simp; first | done | with_reducible rfl)
  simp only [Act.put]
  refine wpUntil_take (i := 1) (v := ?_) rfl (by kernel_rfl) (fun _ _ _ h => h) (Or.inl ⟨by rfl, ?_⟩) hSX ?_
  rotate_left
  · (intro w hSw; have q4 := hSw.1.1 4 _ rfl; go_simp; first | done | with_reducible rfl | rfl)
  simp only [Act.put]
  refine wpUntil_take (i := 2) (v := ?_) rfl (by kernel_rfl) (fun _ _ _ h => h) (Or.inl ⟨by rfl, ?_⟩) hSX ?_
  rotate_left
  · (intro w hSw; go_simp; first | done | with_reducible rfl)
  simp only [Act.put]
  refine wpUntil_take (i := 3) (v := ?_) rfl (by kernel_rfl) (fun _ _ _ h => h) (Or.inl ⟨by rfl, ?_⟩) hSX ?_
  rotate_left
  · (intro w hSw; go_simp; first | done | with_reducible rfl)
  simp only [Act.put]
  refine wpUntil_take (i := 4) (v := ?_) rfl (by kernel_rfl) (fun _ _ _ h => h) (Or.inl ⟨by rfl, ?_⟩) hSX ?_
  rotate_left
  · (intro w hSw; go_simp; first | done | with_reducible rfl)
  simp only [Act.put]
  refine wpUntil_take (i := 5) (v := ?_) rfl (by kernel_rfl) (fun _ _ _ h => h) (Or.inl ⟨by rfl, ?_⟩) hSX ?_
  rotate_left
  · (intro w hSw; have q6 := hSw.2.1 6 _ rfl; go_simp; first | done | with_reducible rfl | rfl)
  simp only [Act.put]
  refine wpUntil_take (i := 6) (v := ?_) rfl (by kernel_rfl) (fun _ _ _ h => h) (Or.inl ⟨by rfl, ?_⟩) hSX ?_
  rotate_left
  · (intro w hSw; go_simp; first | done | with_reducible rfl)
  simp only [Act.put]
  refine wpUntil_take (i := 7) (v := ?_) rfl (by kernel_rfl) (fun _ _ _ h => h) (Or.inl ⟨by rfl, ?_⟩) hSX ?_
  rotate_left
  · (intro w hSw; go_simp; first | done | with_reducible rfl)
  simp only [Act.put]
  refine wpUntil_take (i := 8) (v := ?_) rfl (by kernel_rfl) (fun _ _ _ h => h) (Or.inl ⟨by rfl, ?_⟩) hSX ?_
  rotate_left
  · (intro w hSw; go_simp; first | done | with_reducible rfl)
  simp only [Act.put]
  refine wpUntil_take (i := 9) (v := ?_) rfl (by kernel_rfl) (fun _ _ _ h => h) (Or.inl ⟨by rfl, ?_⟩) hSX ?_
  rotate_left
  · (intro w hSw; have q7 := hSw.2.1 7 _ rfl; have q8 := hSw.2.1 8 _ rfl; have q9 := hSw.2.1 9 _ rfl; have q10 := hSw.2.1 10 _ rfl; have q11 := hSw.2.1 11 _ rfl; have q12 := hSw.2.1 12 _ rfl; have q13 := hSw.2.1 13 _ rfl; go_simp; first | done | with_reducible rfl | rfl)
  simp only [Act.put]
  refine wpUntil_ready (rs := [10]) (by kernel_rfl) (by simp) ?_
  refine AllU.cons rfl (fun K hK => ?_) AllU.nil
  have hix : (i : Int) < (k.txs.length : Int) ∧ 0 ≤ (i : Int) := ⟨jn, by omega⟩
  go_simp
  refine hK.out _ _ (fun _ => hSX) ?_
  clear hK K hix
  refine wpUntil_ready (rs := [11]) (by kernel_rfl) (by simp) ?_
  refine AllU.cons rfl (fun K hK => ?_) AllU.nil
  obtain ⟨Y, hY⟩ : ∃ Y, Y = putB XD b (i * 7) (KTk.cells ⟨u0, u1, u2, u3⟩ t') := ⟨_, rfl⟩
  have KY : Hid (KCl.Ow Y B b1 d1 b2 d2 (some ⟨b, 0, none⟩) d3 (setTx k i t') PP ∧ Below w.heap.size w Y ∧ Bx Y w1.heap.size [.int .i64 k.config, .int .i64 k.clock, .slice b1 k.places.length d1, .slice b2 k.machines.length d2, .slice (some ⟨b, 0, none⟩) k.txs.length d3, .bool k.lost] ∧ Bx Y w.heap.size [.int .i64 0, .int .i64 0, .slice none 0 0, .slice none 0 0, .slice none 0 0, .bool false]) := by
    obtain ⟨k1, k2, k3, k4, k5, k6, k7, k8⟩ := KH.out
    rw [hY]
    exact ⟨k1, putB_below (w := w) k5 _ _ _ k2, k3.of_block (putB_block (fun e => k6 e.symm) _ _ _) (by rw [putB_size]; exact Nat.le_refl _), k4.of_block (putB_block (fun e => k7 e.symm) _ _ _) (by rw [putB_size]; exact Nat.le_refl _)⟩
  have HK8 : Hid (w.heap.size < w1.heap.size) := KH.out.2.2.2.2.2.2.2
  have hY' : Y = (((((((XD.setCell ⟨b, i * 7, none⟩ (.int .i64 t'.id)).setCell ⟨b, i * 7 + 1, none⟩ (.int .i64 t'.home)).setCell ⟨b, i * 7 + 2, none⟩ (.int .i64 t'.phase)).setCell ⟨b, i * 7 + 3, none⟩ (.int .i64 t'.count)).setCell ⟨b, i * 7 + 4, none⟩ (.slice u0 t'.reads.length u1)).setCell ⟨b, i * 7 + 5, none⟩ (.slice u2 t'.sets.length u3)).setCell ⟨b, i * 7 + 6, none⟩ (.int .i64 t'.stamp)) := by rw [hY]; rfl
  have HY := hidOf hY'
  clear hY hY' KH hSX
  go_simp
  rw [← HY.out]
  refine hK.out _ _ (fun h => absurd rfl h) ?_
  clear hK K g0 g1 g2 g3 g4 g5 g6 f0 f1 f2 f3 f4 f5 f6 HY
  refine wpUntil_done (by kernel_rfl) ?_ _
  have o0 := KY.out.2.2.1.1 0 _ rfl
  have o1 := KY.out.2.2.1.1 1 _ rfl
  have o2 := KY.out.2.2.1.1 2 _ rfl
  have o3 := KY.out.2.2.1.1 3 _ rfl
  have o4 := KY.out.2.2.1.1 4 _ rfl
  have o5 := KY.out.2.2.1.1 5 _ rfl
  have r0 := KY.out.2.2.2.1 0 _ rfl
  have r1 := KY.out.2.2.2.1 1 _ rfl
  have r2 := KY.out.2.2.2.1 2 _ rfl
  have r3 := KY.out.2.2.2.1 3 _ rfl
  have r4 := KY.out.2.2.2.1 4 _ rfl
  have r5 := KY.out.2.2.2.1 5 _ rfl
  have f0 := KY.out.2.2.2.2.1 0
  have f1 := KY.out.2.2.2.2.1 1
  have f2 := KY.out.2.2.2.2.1 2
  have f3 := KY.out.2.2.2.2.1 3
  have f4 := KY.out.2.2.2.2.1 4
  have f5 := KY.out.2.2.2.2.1 5
  go_wp2
  refine bodyPost_ret (v := .agg #[.int .i64 k.config, .int .i64 k.clock, .slice b1 k.places.length d1, .slice b2 k.machines.length d2, .slice (some ⟨b, 0, none⟩) k.txs.length d3, .bool k.lost]) (by simp [results, Tryz.results57, go_sem, r0, r1, r2, r3, r4, r5]) rfl ?_
  refine ⟨b1, d1, b2, d2, some ⟨b, 0, none⟩, d3, PP, by simp [setTx], ?_, ?_⟩
  · exact KY.out.1.keep (w' := putB Y w.heap.size 0 [.int .i64 k.config, .int .i64 k.clock, .slice b1 k.places.length d1, .slice b2 k.machines.length d2, .slice (some ⟨b, 0, none⟩) k.txs.length d3, .bool k.lost]) (by rw [putB_size]; exact Nat.le_refl _) (fun q hq => putB_block (fun e => HP.out q hq e) _ _ _)
  · exact putB_below (w := w) (Nat.le_refl _) [.int .i64 k.config, .int .i64 k.clock, .slice b1 k.places.length d1, .slice b2 k.machines.length d2, .slice (some ⟨b, 0, none⟩) k.txs.length d3, .bool k.lost] Y 0 KY.out.2.1
def lockT (t : tx.T7) : tx.T7 := ⟨t.id, t.home, 2, 0, t.reads, t.sets, t.stamp⟩
def comK (k : C6) (y : Int) : C6 := if runC k y = 0 then setTx k (atId k.txs y) (lockT (txAt k y)) else leftC k
theorem runC_zero {k : C6} {y : Int} (h : runC k y = 0) : clusterB k = true ∧ atId k.txs y < k.txs.length ∧ homeB k y = true ∧ (txAt k y).phase = 1 := by
  have h0 : codeB k y = 0 := by
    by_cases hc : codeB k y = 0
    · exact hc
    · simp only [runC, if_neg hc] at h; exact h
  have hp : (txAt k y).phase = 1 := by
    by_cases hp : (txAt k y).phase = 1
    · exact hp
    · simp [runC, h0, hp] at h
  cases hk : clusterB k with
  | false => simp [codeB, hk] at h0
  | true =>
    by_cases hi : atId k.txs y < k.txs.length
    · cases hh : homeB k y with
      | false => simp [codeB, hk, hi, hh] at h0
      | true => exact ⟨rfl, hi, rfl, hp⟩
    · simp [codeB, hk, hi] at h0
set_option maxRecDepth 100000 in
set_option maxHeartbeats 2000000 in
theorem commit1_any (w : World) (q1 q2 : Nat) (a1 : Option Addr) (c1 : Nat) (a2 : Option Addr) (c2 : Nat) (a3 : Option Addr) (c3 : Nat) (k : C6) (y : Int) (hl : KCl.L k) (h : KCl.Rd w a1 c1 a2 c2 a3 c3 k) (x1 : Bx w q1 [.int .i64 k.config, .int .i64 k.clock, .slice a1 k.places.length c1, .slice a2 k.machines.length c2, .slice a3 k.txs.length c3, .bool k.lost]) (x2 : Bx w q2 [.int .i64 y]) :
    Calls Tryz.prog 74 #[.pointer (some ⟨q1, 0, none⟩), .pointer (some ⟨q2, 0, none⟩)] w (DAns w (comK k y) (runC k y)) := by
  obtain ⟨W0, hW0⟩ : ∃ Y, Y = w.alloc (.cells #[.int .i64 0, .int .i64 0, .slice none 0 0, .slice none 0 0, .slice none 0 0, .bool false] 32) := ⟨_, rfl⟩
  have b0 : Below w.heap.size w W0 := by rw [hW0]; exact (Below.refl _ _).alloc (Nat.le_refl _) _
  have x0 : Bx W0 w.heap.size [.int .i64 0, .int .i64 0, .slice none 0 0, .slice none 0 0, .slice none 0 0, .bool false] := by rw [hW0]; exact Bx.made w [.int .i64 0, .int .i64 0, .slice none 0 0, .slice none 0 0, .slice none 0 0, .bool false] _
  have hc := runningDeed_any W0 a1 c1 a2 c2 a3 c3 k y hl (h.later b0)
  have y1 := x1.later b0
  have p0 := y1.1 0 _ rfl
  have p1 := y1.1 1 _ rfl
  have p2 := y1.1 2 _ rfl
  have p3 := y1.1 3 _ rfl
  have p4 := y1.1 4 _ rfl
  have p5 := y1.1 5 _ rfl
  have p6 := (x2.later b0).1 0 _ rfl
  have H : Hid (Below w.heap.size w W0 ∧ Bx W0 w.heap.size [.int .i64 0, .int .i64 0, .slice none 0 0, .slice none 0 0, .slice none 0 0, .bool false] ∧ KCl.Rd w a1 c1 a2 c2 a3 c3 k) := ⟨b0, x0, h⟩
  rw [hW0] at p0 p1 p2 p3 p4 p5 p6
  clear b0 x0 y1 h x1 x2 hl
  go_enter Tryz.func74, Tryz.ntmps74
  go_wp2_with fail
  rw [← hW0]
  clear hW0
  refine hc.mono ?_
  clear hc p0 p1 p2 p3 p4 p5 p6
  rintro e w1 (⟨hn, hr⟩ | ⟨hz, d, u0, u1, u2, u3, P, rfl, hbx, how, hpd, hdw, b1⟩)
  · have HX : Hid (DAns w (comK k y) (runC k y) e w1) := (RAns.low (by rw [comK, if_neg hn]; exact hr) H.out.1).d hn
    obtain ⟨b1, d1, b2, d2, b3, d3, P, rfl, -, -⟩ := hr
    go_wp2
    exact ⟨rfl, HX.out⟩
  · obtain ⟨hk, hi, -, -⟩ := runC_zero hz
    have hcom : comK k y = setTx k (atId k.txs y) (lockT (txAt k y)) := by rw [comK, if_pos hz]
    obtain ⟨W2, hW2⟩ : ∃ Y, Y = (w1.setCell ⟨d, 9, none⟩ (.int .i64 2)).setCell ⟨d, 10, none⟩ (.int .i64 0) := ⟨_, rfl⟩
    have hW0s := H.out.2.1.2.2
    have xd : Bx W2 d [.int .i64 k.config, .int .i64 k.clock, .slice a1 k.places.length c1, .slice a2 k.machines.length c2, .slice a3 k.txs.length c3, .bool k.lost, .int .i64 (atId k.txs y : Int), .int .i64 (lockT (txAt k y)).id, .int .i64 (lockT (txAt k y)).home, .int .i64 (lockT (txAt k y)).phase, .int .i64 (lockT (txAt k y)).count, .slice u0 (lockT (txAt k y)).reads.length u1, .slice u2 (lockT (txAt k y)).sets.length u3, .int .i64 (lockT (txAt k y)).stamp] := by rw [hW2]; exact (hbx.set (i := 9) (by simp) _).set (i := 10) (by simp) _
    have blk : ∀ q, q ≠ d → W2.heap[q]? = w1.heap[q]? := fun q hq => by rw [hW2]; exact (Below.heap_setCell _ _ _ _ hq).trans (Below.heap_setCell _ _ _ _ hq)
    have hsz : W2.heap.size = w1.heap.size := by rw [hW2]; simp [World.setCell]
    have bW2 : Below W0.heap.size W0 W2 := by rw [hW2]; exact (b1.setCell (p := ⟨d, 9, none⟩) hdw _).setCell (p := ⟨d, 10, none⟩) hdw _
    have how2 : KT.Ow W2 W0.heap.size u0 u1 u2 u3 (lockT (txAt k y)) P := (how.head _ _ _ _ _).keep (Nat.le_of_eq hsz.symm) (fun q hq => blk q (hpd q hq))
    have hdn := done_any W2 W0.heap.size d a1 c1 a2 c2 a3 c3 k (atId k.txs y) (lockT (txAt k y)) u0 u1 u2 u3 P hk hi (H.out.2.2.later (bstep H.out.1 bW2)) xd how2 bW2.size
    have g9 := hbx.1 9 _ rfl
    have g10 := hbx.1 10 _ rfl
    have f9 := hbx.2.1 9
    have f10 := hbx.2.1 10
    have K1 : Hid (runC k y = 0 ∧ comK k y = setTx k (atId k.txs y) (lockT (txAt k y)) ∧ Below w.heap.size w W2 ∧ Bx W2 w.heap.size [.int .i64 0, .int .i64 0, .slice none 0 0, .slice none 0 0, .slice none 0 0, .bool false] ∧ w.heap.size < W0.heap.size) := ⟨hz, hcom, bstep H.out.1 bW2, H.out.2.1.later bW2, hW0s⟩
    clear hz hk hi hcom hbx how hpd hdw b1 hW0s xd blk hsz bW2 how2 H
    go_wp2_with fail
    rw [← hW2]
    clear hW2 g9 g10 f9 f10
    refine hdn.mono ?_
    clear hdn
    rintro e w3 ⟨e1, g1, e2, g2, e3, g3, PP, rfl, how, b3⟩
    obtain ⟨hz, hcom, bw2, xz, hW0s⟩ := K1.out
    have y0 := xz.later b3
    have bw3 := bstep bw2 b3
    have r0 := y0.1 0 _ rfl
    have r1 := y0.1 1 _ rfl
    have r2 := y0.1 2 _ rfl
    have r3 := y0.1 3 _ rfl
    have r4 := y0.1 4 _ rfl
    have r5 := y0.1 5 _ rfl
    have f0 := y0.2.1 0
    have f1 := y0.2.1 1
    have f2 := y0.2.1 2
    have f3 := y0.2.1 3
    have f4 := y0.2.1 4
    have f5 := y0.2.1 5
    have KE : Hid (KCl.Ow w3 W0.heap.size e1 g1 e2 g2 e3 g3 (setTx k (atId k.txs y) (lockT (txAt k y))) PP ∧ Below w.heap.size w w3 ∧ w.heap.size < W0.heap.size ∧ runC k y = 0 ∧ comK k y = setTx k (atId k.txs y) (lockT (txAt k y))) := ⟨how, bw3, hW0s, hz, hcom⟩
    clear hz hcom bw2 xz hW0s y0 bw3 how b3 K1
    generalize setTx k (atId k.txs y) (lockT (txAt k y)) = N at *
    go_wp2
    refine bodyPost_ret (v := .agg #[.int .i64 N.config, .int .i64 N.clock, .slice e1 N.places.length g1, .slice e2 N.machines.length g2, .slice e3 N.txs.length g3, .bool N.lost]) (by simp [results, Tryz.results74, go_sem, r0, r1, r2, r3, r4, r5]) rfl ?_
    refine ⟨e1, g1, e2, g2, e3, g3, PP, .inl ⟨KE.out.2.2.2.1, ?_⟩, ?_, ?_⟩
    · rw [KE.out.2.2.2.2]
    · rw [KE.out.2.2.2.2]
      have hlow : w.heap.size ≤ W0.heap.size := Nat.le_of_lt KE.out.2.2.1
      exact (KE.out.1.low hlow).keep (w' := putB w3 w.heap.size 0 [.int .i64 N.config, .int .i64 N.clock, .slice e1 N.places.length g1, .slice e2 N.machines.length g2, .slice e3 N.txs.length g3, .bool N.lost]) (by rw [putB_size]; exact Nat.le_refl _) (fun q hq => putB_block (fun e => by have := (KE.out.1.of hq).1; have := KE.out.2.2.1; omega) _ _ _)
    · exact putB_below (w := w) (Nat.le_refl _) [.int .i64 N.config, .int .i64 N.clock, .slice e1 N.places.length g1, .slice e2 N.machines.length g2, .slice e3 N.txs.length g3, .bool N.lost] w3 0 KE.out.2.1
set_option maxRecDepth 100000 in
set_option maxHeartbeats 2000000 in
theorem implCommit_any (w : World) (a1 : Option Addr) (c1 : Nat) (a2 : Option Addr) (c2 : Nat) (a3 : Option Addr) (c3 : Nat) (k : C6) (y : Int) (hl : KCl.L k) (h : KCl.Rd w a1 c1 a2 c2 a3 c3 k) (hg : HG w) :
    Calls Tryz.prog 25 #[.agg #[.int .i64 k.config, .int .i64 k.clock, .slice a1 k.places.length c1, .slice a2 k.machines.length c2, .slice a3 k.txs.length c3, .bool k.lost], .int .i64 y] w (FcAns w (comK k y) (runC k y)) := by
  have hmf : ∀ (fn : Fn) (first cap : Array Value) (w : World), (Instr.makeFunc fn first cap).run Tryz.prog w = .ok (.func fn first cap) w := fun _ _ _ _ => rfl
  obtain ⟨W0, hW0⟩ : ∃ Y, Y = ((w.alloc (.cells #[.int .i64 k.config, .int .i64 k.clock, .slice a1 k.places.length c1, .slice a2 k.machines.length c2, .slice a3 k.txs.length c3, .bool k.lost] 32)).alloc (.cells #[.int .i64 y] 2)).alloc (.cells #[.int .i64 0, .int .i64 0, .slice none 0 0, .slice none 0 0, .slice none 0 0, .bool false] 32) := ⟨_, rfl⟩
  have b0 : Below w.heap.size w W0 := by rw [hW0]; exact (((Below.refl _ _).alloc (Nat.le_refl _) _).alloc (by simp) _).alloc (by simp; omega) _
  have s0 : W0.heap.size = w.heap.size + 3 := by rw [hW0]; simp
  have x0 : Bx W0 w.heap.size [.int .i64 k.config, .int .i64 k.clock, .slice a1 k.places.length c1, .slice a2 k.machines.length c2, .slice a3 k.txs.length c3, .bool k.lost] := by
    have := ((Bx.made w [.int .i64 k.config, .int .i64 k.clock, .slice a1 k.places.length c1, .slice a2 k.machines.length c2, .slice a3 k.txs.length c3, .bool k.lost] 32).later ((Below.refl _ _).alloc (Nat.le_refl _) (.cells #[.int .i64 y] 2))).later ((Below.refl _ _).alloc (Nat.le_refl _) (.cells #[.int .i64 0, .int .i64 0, .slice none 0 0, .slice none 0 0, .slice none 0 0, .bool false] 32))
    rw [hW0]; exact this
  have x1 : Bx W0 (w.heap.size + 1) [.int .i64 y] := by
    have h := Bx.made (w.alloc (.cells #[.int .i64 k.config, .int .i64 k.clock, .slice a1 k.places.length c1, .slice a2 k.machines.length c2, .slice a3 k.txs.length c3, .bool k.lost] 32)) [.int .i64 y] 2
    rw [show (w.alloc (.cells #[.int .i64 k.config, .int .i64 k.clock, .slice a1 k.places.length c1, .slice a2 k.machines.length c2, .slice a3 k.txs.length c3, .bool k.lost] 32)).heap.size = w.heap.size + 1 by simp] at h
    have := h.later ((Below.refl _ _).alloc (Nat.le_refl _) (.cells #[.int .i64 0, .int .i64 0, .slice none 0 0, .slice none 0 0, .slice none 0 0, .bool false] 32))
    rw [hW0]; exact this
  have x2 : Bx W0 (w.heap.size + 2) [.int .i64 0, .int .i64 0, .slice none 0 0, .slice none 0 0, .slice none 0 0, .bool false] := by
    have h := Bx.made ((w.alloc (.cells #[.int .i64 k.config, .int .i64 k.clock, .slice a1 k.places.length c1, .slice a2 k.machines.length c2, .slice a3 k.txs.length c3, .bool k.lost] 32)).alloc (.cells #[.int .i64 y] 2)) [.int .i64 0, .int .i64 0, .slice none 0 0, .slice none 0 0, .slice none 0 0, .bool false] 32
    rw [show ((w.alloc (.cells #[.int .i64 k.config, .int .i64 k.clock, .slice a1 k.places.length c1, .slice a2 k.machines.length c2, .slice a3 k.txs.length c3, .bool k.lost] 32)).alloc (.cells #[.int .i64 y] 2)).heap.size = w.heap.size + 2 by simp] at h
    rw [hW0]; exact h
  have hf := face_Commit W0 w.heap.size (w.heap.size + 1) (comK k y) (runC k y) (hg.later b0) (fun X hX => by
    have bX : Below W0.heap.size W0 X := by rw [hX]; exact ((Below.refl _ _).alloc (Nat.le_refl _) _).alloc (by simp) _
    exact commit1_any X w.heap.size (w.heap.size + 1) a1 c1 a2 c2 a3 c3 k y hl (h.later (bstep b0 bX)) (x0.later bX) (x1.later bX))
  have H : Hid (Below w.heap.size w W0 ∧ Bx W0 (w.heap.size + 2) [.int .i64 0, .int .i64 0, .slice none 0 0, .slice none 0 0, .slice none 0 0, .bool false] ∧ W0.heap.size = w.heap.size + 3) := ⟨b0, x2, s0⟩
  clear b0 s0 x0 x1 x2 h hg hl
  go_enter Tryz.func25, Tryz.ntmps25
  go_wp2_with fail
  rw [← hW0]
  clear hW0
  refine hf.mono ?_
  clear hf
  rintro e w3 ⟨e1, g1, e2, g2, e3, g3, PP, rfl, how, b3⟩
  have y0 := H.out.2.1.later b3
  have r0 := y0.1 0 _ rfl
  have r1 := y0.1 1 _ rfl
  have r2 := y0.1 2 _ rfl
  have r3 := y0.1 3 _ rfl
  have r4 := y0.1 4 _ rfl
  have r5 := y0.1 5 _ rfl
  have f0 := y0.2.1 0
  have f1 := y0.2.1 1
  have f2 := y0.2.1 2
  have f3 := y0.2.1 3
  have f4 := y0.2.1 4
  have f5 := y0.2.1 5
  have KE : Hid (KCl.Ow w3 W0.heap.size e1 g1 e2 g2 e3 g3 (comK k y) PP ∧ Below w.heap.size w w3 ∧ W0.heap.size = w.heap.size + 3) := ⟨how, bstep H.out.1 b3, H.out.2.2⟩
  clear y0 how b3 H
  generalize comK k y = N at *
  generalize runC k y = n at *
  go_wp2
  refine bodyPost_ret (v := .tuple #[.agg #[.int .i64 N.config, .int .i64 N.clock, .slice e1 N.places.length g1, .slice e2 N.machines.length g2, .slice e3 N.txs.length g3, .bool N.lost], .int .i64 n]) (by simp [results, Tryz.results25, go_sem, r0, r1, r2, r3, r4, r5]) rfl ?_
  refine ⟨e1, g1, e2, g2, e3, g3, PP, rfl, ?_, ?_⟩
  · exact (KE.out.1.low (by have := KE.out.2.2; omega)).keep (w' := putB w3 (w.heap.size + 2) 0 [.int .i64 N.config, .int .i64 N.clock, .slice e1 N.places.length g1, .slice e2 N.machines.length g2, .slice e3 N.txs.length g3, .bool N.lost]) (by rw [putB_size]; exact Nat.le_refl _) (fun q hq => putB_block (fun e => by have := (KE.out.1.of hq).1; have := KE.out.2.2; omega) _ _ _)
  · exact putB_below (w := w) (by omega) [.int .i64 N.config, .int .i64 N.clock, .slice e1 N.places.length g1, .slice e2 N.machines.length g2, .slice e3 N.txs.length g3, .bool N.lost] w3 0 KE.out.2.1
structure Kd.Rest {D V : Type} (K : Kd D V) (X : World) (B b n : Nat) (ys : List D) (g : Nat → Nat → Prop) (j : Nat) : Prop where
  rm : Room X b (n * K.n)
  at_ : ∀ i d, j ≤ i → ys[i]? = some d → ∃ v, At X b (i * K.n) (K.cells v d) ∧ K.Ow X B v d (g i)
  ne : ∀ i q, i < ys.length → g i q → q ≠ b
  ap : ∀ i j q, i < ys.length → j < ys.length → i ≠ j → g i q → ¬ g j q
theorem Kd.Part.rest {D V : Type} {K : Kd D V} {X : World} {B b n : Nat} {ys : List D} {g : Nat → Nat → Prop} (h : K.Part X B b n ys g) : K.Rest X B b n ys g 0 := ⟨h.rm, fun i d _ hi => h.at_ i d hi, h.ne, h.ap⟩
theorem Kd.Rest.up {D V : Type} {K : Kd D V} {X : World} {B b n : Nat} {ys : List D} {g : Nat → Nat → Prop} {j : Nat} (h : K.Rest X B b n ys g j) : K.Rest X B b n ys g (j + 1) := ⟨h.rm, fun i d hj hi => h.at_ i d (by omega) hi, h.ne, h.ap⟩
theorem Kd.Rest.set {D V : Type} {K : Kd D V} {X : World} {B b n : Nat} {ys : List D} {g : Nat → Nat → Prop} {j o : Nat} (h : K.Rest X B b n ys g (j + 1)) (ho : o < (j + 1) * K.n) (u : Value) : K.Rest (X.setCell ⟨b, o, none⟩ u) B b n ys g (j + 1) := by
  refine ⟨h.rm.set _, fun i d hj hi => ?_, h.ne, h.ap⟩
  obtain ⟨v, h1, h2⟩ := h.at_ i d hj hi
  have hm := Nat.mul_le_mul_right K.n hj
  exact ⟨v, fun q u' e => (cell_set_other (by omega)).trans (h1 q u' e), K.keep h2 (by simp [World.setCell]) (fun q hq => Below.heap_setCell _ _ _ _ (h.ne i q (List.getElem?_eq_some_iff.1 hi).1 hq))⟩
theorem Kd.Rest.kept {D V : Type} {K : Kd D V} {X Y : World} {B b n : Nat} {ys : List D} {g : Nat → Nat → Prop} {j : Nat} {Q : Nat → Prop} (h : K.Rest X B b n ys g (j + 1)) (hk : KeptP Q X Y) (hb : b < X.heap.size) (hj : j < ys.length) (hQ : ∀ q, Q q → g j q) : K.Rest Y B b n ys g (j + 1) := by
  have hbb : Y.heap[b]? = X.heap[b]? := hk.block b hb (fun e => h.ne j b hj (hQ b e) rfl)
  refine ⟨room_blk h.rm hbb, fun i d hji hi => ?_, h.ne, h.ap⟩
  obtain ⟨v, h1, h2⟩ := h.at_ i d hji hi
  have hl := (List.getElem?_eq_some_iff.1 hi).1
  exact ⟨v, h1.of_block hbb, K.keep h2 hk.size (fun q hq => hk.block q (K.of h2 hq).2 (fun e => h.ap i j q hl hj (by omega) hq (hQ q e)))⟩
def cM (m : M4) : Nat := 1 + (offG cK m.copies m.copies.length + offG cR m.log m.log.length + m.cleared.length)
structure MRow (w X : World) (B b : Nat) (ms : List M4) (g : Nat → Nat → Prop) (P : Nat → Prop) (j : Nat) (a2 : Option Addr) (c2 : Nat) (a3 : Option Addr) (c3 : Nat) (PR PD : Nat → Prop) : Prop where
  r : OwnL 4 hdR lnR AtR X PR a2 (atM ms j).log
  n : OwnN X PD a3 (atM ms j).cleared
  e2 : X.cell? ⟨b, j * 4 + 2, none⟩ = some (.slice a2 (atM ms j).log.length c2)
  e3 : X.cell? ⟨b, j * 4 + 3, none⟩ = some (.slice a3 (atM ms j).cleared.length c3)
  rest : KMk.Rest X B b ms.length ms g (j + 1)
  kp : KeptP P w X
  lt : b < X.heap.size
set_option maxRecDepth 100000 in
set_option maxHeartbeats 4000000 in
theorem markMs (w : World) (B b cap : Nat) (ms : List M4) (g : Nat → Nat → Prop) (P : Nat → Prop) (k : Int) (hk : 0 ≤ k) (hk' : k + (offG cM ms ms.length : Int) ≤ 100000000) (hn : ms.length ≤ 1048576) (ht : ∀ m ∈ ms, MT m) (hb : b < w.heap.size) (hPb : P b) (hPg : ∀ i q, i < ms.length → g i q → P q) (h : KMk.Part w B b ms.length ms g) :
    Calls Tryz.prog 45 #[.slice (some ⟨b, 0, none⟩) ms.length cap, .int .i64 k] w fun e w' => e = .returned (.int .i64 (k + (offG cM ms ms.length : Int))) ∧ KeptP P w w' := by
  have H : Hid ((∀ m ∈ ms, MT m) ∧ b < w.heap.size ∧ P b ∧ (∀ i q, i < ms.length → g i q → P q) ∧ KMk.Part w B b ms.length ms g) := ⟨ht, hb, hPb, hPg, h⟩
  clear ht hb hPb hPg h
  go_enter Tryz.func45, Tryz.ntmps45
  go_wp2
  go_loopw [1, 5] (fun v1 v5 wr => ∃ j : Nat, j ≤ ms.length ∧ v5 = .int .i64 j ∧ v1 = .int .i64 (k + (offG cM ms j : Int)) ∧ KeptP P w wr ∧ KMk.Rest wr B b ms.length ms g j) (fun _ v5 _ => ms.length - (intOf v5).toNat)
  case atStart => exact ⟨0, Nat.zero_le _, rfl, by rw [offG_zero]; simp, KeptP.refl _ _, H.out.2.2.2.2.rest⟩
  case round =>
    obtain ⟨j, hj, rfl, rfl, hkp, hrs⟩ := hrel
    have hb2 := offG_le cM ms j
    by_cases hlt : j < ms.length
    · have hd := atM_of hlt
      obtain ⟨⟨m0, m1, m2, m3, m4, m5⟩, hat, how⟩ := hrs.at_ j _ (Nat.le_refl _) hd
      obtain ⟨PK, PR, PD, om, hsub, hbd⟩ := how
      obtain ⟨z0, d0, f0⟩ : ∃ v, wr.cell? ⟨b, j * 4, none⟩ = some v ∧ wr.frozen? ⟨b, j * 4, none⟩ = false := hrs.rm (j * 4) (show _ < ms.length * 4 by omega)
      have e1 : wr.cell? ⟨b, j * 4 + 1, none⟩ = some (.slice m0 (atM ms j).copies.length m1) := hat 1 _ rfl
      have e2 : wr.cell? ⟨b, j * 4 + 2, none⟩ = some (.slice m2 (atM ms j).log.length m3) := hat 2 _ rfl
      have e3 : wr.cell? ⟨b, j * 4 + 3, none⟩ = some (.slice m4 (atM ms j).cleared.length m5) := hat 3 _ rfl
      have hT := H.out.1 _ (List.mem_of_getElem? hd)
      have hoff : offG cM ms (j + 1) = offG cM ms j + cM (atM ms j) := offG_succ cM hd
      have hle := offG_le cM ms (j + 1)
      have HO : Hid (offG cM ms (j + 1) = offG cM ms j + (1 + (offG cK (atM ms j).copies (atM ms j).copies.length + offG cR (atM ms j).log (atM ms j).log.length + (atM ms j).cleared.length)) ∧ k + (offG cM ms (j + 1) : Int) ≤ 100000000) := ⟨hoff, by omega⟩
      have hnb : ∀ q, g j q → q ≠ b := fun q hq => hrs.ne j q hlt hq
      have bl : b < wr.heap.size := Nat.lt_of_lt_of_le H.out.2.1 hkp.size
      have S1 : Hid (∀ u : Value, OwnL 2 hdK lnK AtK (wr.setCell ⟨b, j * 4, none⟩ u) PK m0 (atM ms j).copies ∧ MRow w (wr.setCell ⟨b, j * 4, none⟩ u) B b ms g P j m2 m3 m4 m5 PR PD) := fun u => by
        have hsz : wr.heap.size ≤ (wr.setCell ⟨b, j * 4, none⟩ u).heap.size := by simp [World.setCell]
        exact ⟨om.k.keep AtK.of_block hsz (fun q _ hp => Below.heap_setCell _ _ _ _ (hnb q (hsub q (.inl hp)))), om.r.keep AtR.of_block hsz (fun q _ hp => Below.heap_setCell _ _ _ _ (hnb q (hsub q (.inr (.inl hp))))), om.n.keep hsz (fun q _ hp => Below.heap_setCell _ _ _ _ (hnb q (hsub q (.inr (.inr hp))))),
          (cell_set_other (by omega)).trans e2, (cell_set_other (by omega)).trans e3, hrs.up.set (show j * 4 < (j + 1) * 4 by omega) u, hkp.trans (KeptP.of_set wr u H.out.2.2.1), Nat.lt_of_lt_of_le bl hsz⟩
      have HG : Hid ((∀ q, PK q → g j q) ∧ (∀ q, PR q → g j q) ∧ (∀ q, PD q → g j q) ∧ (∀ q, PK q → ¬ PR q) ∧ (∀ q, PK q → ¬ PD q) ∧ (∀ q, PR q → ¬ PD q) ∧ (∀ q, g j q → q ≠ b) ∧ (∀ q, g j q → P q)) := ⟨fun q hq => hsub q (.inl hq), fun q hq => hsub q (.inr (.inl hq)), fun q hq => hsub q (.inr (.inr hq)), om.kr, om.kd, om.rd, hnb, fun q hq => H.out.2.2.2.1 j q hlt hq⟩
      have S2 : Hid (∀ u w1, KeptP PK (wr.setCell ⟨b, j * 4, none⟩ u) w1 → MRow w w1 B b ms g P j m2 m3 m4 m5 PR PD) := fun u w1 k1 => by
        have R0 := (S1.out u).2
        have hbk := k1.block b R0.lt (fun e => HG.out.2.2.2.2.2.2.1 b (HG.out.1 b e) rfl)
        exact ⟨R0.r.keep AtR.of_block k1.size (fun q hq hp => k1.block q hq (fun e => HG.out.2.2.2.1 q e hp)), R0.n.keep k1.size (fun q hq hp => k1.block q hq (fun e => HG.out.2.2.2.2.1 q e hp)), (World.cell?_of_block (a := ⟨b, j * 4 + 2, none⟩) hbk).trans R0.e2, (World.cell?_of_block (a := ⟨b, j * 4 + 3, none⟩) hbk).trans R0.e3, R0.rest.kept k1 R0.lt hlt HG.out.1, R0.kp.trans (k1.mono (fun q hq => HG.out.2.2.2.2.2.2.2 q (HG.out.1 q hq))), Nat.lt_of_lt_of_le R0.lt k1.size⟩
      have HT : Hid (MT (atM ms j)) := hT
      have jn : (j : Int) < (ms.length : Int) := by omega
      have g0 : 0 ≤ k + (offG cM ms j : Int) := by omega
      have g1 : k + (offG cM ms j : Int) ≤ 100000000 := by omega
      clear hkp hrs hat om hsub hbd hd hoff hle hnb hT bl e2 e3 hb2
      generalize hK : k + (offG cM ms j : Int) = kj at *
      go_wp2_with fail
      refine (markK _ PK m0 m1 (atM ms j).copies (kj + 1) (by omega) (by omega) HT.out.tk HT.out.k HT.out.ks (S1.out _).1).mono ?_
      rintro e w1 ⟨rfl, k1, -⟩
      have R1 : Hid (MRow w w1 B b ms g P j m2 m3 m4 m5 PR PD) := S2.out _ _ k1
      clear k1 S1 S2 d0 f0 e1
      have e2 := R1.out.e2
      have tk := HT.out.tk
      have tr := HT.out.tr
      have tn := HT.out.n
      go_wp2_with fail
      refine (markR w1 PR m2 m3 (atM ms j).log _ (by omega) (by omega) HT.out.tr HT.out.r HT.out.rs R1.out.r).mono ?_
      rintro e w2 ⟨rfl, k2, -⟩
      have R2 : Hid (OwnN w2 PD m4 (atM ms j).cleared ∧ w2.cell? ⟨b, j * 4 + 3, none⟩ = some (.slice m4 (atM ms j).cleared.length m5) ∧ KMk.Rest w2 B b ms.length ms g (j + 1) ∧ KeptP P w w2 ∧ b < w2.heap.size) := by
        have R0 := R1.out
        have hbk := k2.block b R0.lt (fun e => HG.out.2.2.2.2.2.2.1 b (HG.out.2.1 b e) rfl)
        exact ⟨R0.n.keep k2.size (fun q hq hp => k2.block q hq (fun e => HG.out.2.2.2.2.2.1 q e hp)), (World.cell?_of_block (a := ⟨b, j * 4 + 3, none⟩) hbk).trans R0.e3, R0.rest.kept k2 R0.lt hlt HG.out.2.1, R0.kp.trans (k2.mono (fun q hq => HG.out.2.2.2.2.2.2.2 q (HG.out.2.1 q hq))), Nat.lt_of_lt_of_le R0.lt k2.size⟩
      clear k2 R1 e2
      have e3 := R2.out.2.1
      go_wp2_with fail
      refine (markN w2 PD m4 m5 (atM ms j).cleared _ (by omega) (by omega) HT.out.n R2.out.1).mono ?_
      rintro e w3 ⟨rfl, k3, -⟩
      have R3 : Hid (KMk.Rest w3 B b ms.length ms g (j + 1) ∧ KeptP P w w3) := ⟨R2.out.2.2.1.kept k3 R2.out.2.2.2.2 hlt HG.out.2.2.1, R2.out.2.2.2.1.trans (k3.mono (fun q hq => HG.out.2.2.2.2.2.2.2 q (HG.out.2.2.1 q hq)))⟩
      clear k3 R2 e3
      go_wp2
      exact ⟨⟨j + 1, by omega, by simp, by have := HO.out.1; rw [this]; congr 1; omega, R3.out.2, R3.out.1⟩, by simp [intOf]; omega⟩
    · obtain rfl : j = ms.length := by omega
      have hd : decide ((ms.length : Int) < (ms.length : Int)) = false := by simp
      have KH : Hid (KeptP P w wr) := hkp
      clear hkp hrs
      go_wp2
      go_ret
      exact ⟨rfl, KH.out⟩
theorem kp_of {P : Nat → Prop} {a b : World} (h : tx.KeptP P a b) : KeptP P a b := ⟨h.os, h.tape, h.output, h.size, h.block⟩
def cT (t : tx.T7) : Nat := 5 + (5 * t.reads.length + 5 * t.sets.length)
structure TRow (w X : World) (B b : Nat) (ts : List tx.T7) (g : Nat → Nat → Prop) (P : Nat → Prop) (j : Nat) (a2 : Option Addr) (c2 : Nat) (PS : Nat → Prop) : Prop where
  s : tx.OwnSe X PS a2 (atT ts j).sets
  e5 : X.cell? ⟨b, j * 7 + 5, none⟩ = some (.slice a2 (atT ts j).sets.length c2)
  rest : KTk.Rest X B b ts.length ts g (j + 1)
  kp : KeptP P w X
  lt : b < X.heap.size
set_option maxRecDepth 100000 in
set_option maxHeartbeats 4000000 in
theorem markTs (w : World) (B b cap : Nat) (ts : List tx.T7) (g : Nat → Nat → Prop) (P : Nat → Prop) (k : Int) (hk : 0 ≤ k) (hk' : k + (offG cT ts ts.length : Int) ≤ 100000000) (hn : ts.length ≤ 1048576) (ht : ∀ t ∈ ts, KT.S t) (hb : b < w.heap.size) (hPb : P b) (hPg : ∀ i q, i < ts.length → g i q → P q) (h : KTk.Part w B b ts.length ts g) :
    Calls Tryz.prog 46 #[.slice (some ⟨b, 0, none⟩) ts.length cap, .int .i64 k] w fun e w' => e = .returned (.int .i64 (k + (offG cT ts ts.length : Int))) ∧ KeptP P w w' := by
  have H : Hid ((∀ t ∈ ts, KT.S t) ∧ b < w.heap.size ∧ P b ∧ (∀ i q, i < ts.length → g i q → P q) ∧ KTk.Part w B b ts.length ts g) := ⟨ht, hb, hPb, hPg, h⟩
  clear ht hb hPb hPg h
  go_enter Tryz.func46, Tryz.ntmps46
  go_wp2
  go_loopw [1, 5] (fun v1 v5 wr => ∃ j : Nat, j ≤ ts.length ∧ v5 = .int .i64 j ∧ v1 = .int .i64 (k + (offG cT ts j : Int)) ∧ KeptP P w wr ∧ KTk.Rest wr B b ts.length ts g j) (fun _ v5 _ => ts.length - (intOf v5).toNat)
  case atStart => exact ⟨0, Nat.zero_le _, rfl, by rw [offG_zero]; simp, KeptP.refl _ _, H.out.2.2.2.2.rest⟩
  case round =>
    obtain ⟨j, hj, rfl, rfl, hkp, hrs⟩ := hrel
    have hb2 := offG_le cT ts j
    by_cases hlt : j < ts.length
    · have hd := atT_of hlt
      obtain ⟨⟨t0, t1, t2, t3⟩, hat, how⟩ := hrs.at_ j _ (Nat.le_refl _) hd
      obtain ⟨PR, PS, om, hsub, hbd⟩ := how
      obtain ⟨z0, d0, f0⟩ : ∃ v, wr.cell? ⟨b, j * 7, none⟩ = some v ∧ wr.frozen? ⟨b, j * 7, none⟩ = false := hrs.rm (j * 7 + 0) (show _ < ts.length * 7 by omega)
      obtain ⟨z1, d1, f1⟩ : ∃ v, wr.cell? ⟨b, j * 7 + 1, none⟩ = some v ∧ wr.frozen? ⟨b, j * 7 + 1, none⟩ = false := hrs.rm (j * 7 + 1) (show _ < ts.length * 7 by omega)
      obtain ⟨z2, d2, f2⟩ : ∃ v, wr.cell? ⟨b, j * 7 + 2, none⟩ = some v ∧ wr.frozen? ⟨b, j * 7 + 2, none⟩ = false := hrs.rm (j * 7 + 2) (show _ < ts.length * 7 by omega)
      obtain ⟨z3, d3, f3⟩ : ∃ v, wr.cell? ⟨b, j * 7 + 3, none⟩ = some v ∧ wr.frozen? ⟨b, j * 7 + 3, none⟩ = false := hrs.rm (j * 7 + 3) (show _ < ts.length * 7 by omega)
      have e4 : wr.cell? ⟨b, j * 7 + 4, none⟩ = some (.slice t0 (atT ts j).reads.length t1) := hat 4 _ rfl
      have e5 : wr.cell? ⟨b, j * 7 + 5, none⟩ = some (.slice t2 (atT ts j).sets.length t3) := hat 5 _ rfl
      have hT := H.out.1 _ (List.mem_of_getElem? hd)
      have hoff : offG cT ts (j + 1) = offG cT ts j + cT (atT ts j) := offG_succ cT hd
      have hle := offG_le cT ts (j + 1)
      have HO : Hid (offG cT ts (j + 1) = offG cT ts j + (5 + (5 * (atT ts j).reads.length + 5 * (atT ts j).sets.length)) ∧ k + (offG cT ts (j + 1) : Int) ≤ 100000000) := ⟨hoff, by omega⟩
      have hnb : ∀ q, g j q → q ≠ b := fun q hq => hrs.ne j q hlt hq
      have bl : b < wr.heap.size := Nat.lt_of_lt_of_le H.out.2.1 hkp.size
      have S1 : Hid (∀ u0 u1 u2 u3 : Value, tx.OwnNo ((((wr.setCell ⟨b, j * 7, none⟩ u0).setCell ⟨b, j * 7 + 1, none⟩ u1).setCell ⟨b, j * 7 + 2, none⟩ u2).setCell ⟨b, j * 7 + 3, none⟩ u3) PR t0 (atT ts j).reads ∧ TRow w ((((wr.setCell ⟨b, j * 7, none⟩ u0).setCell ⟨b, j * 7 + 1, none⟩ u1).setCell ⟨b, j * 7 + 2, none⟩ u2).setCell ⟨b, j * 7 + 3, none⟩ u3) B b ts g P j t2 t3 PS) := fun u0 u1 u2 u3 => by
        have ob : OnlyBlock b wr ((((wr.setCell ⟨b, j * 7, none⟩ u0).setCell ⟨b, j * 7 + 1, none⟩ u1).setCell ⟨b, j * 7 + 2, none⟩ u2).setCell ⟨b, j * 7 + 3, none⟩ u3) := ((((OnlyBlock.refl b wr).setCell _ _).setCell _ _).setCell _ _).setCell _ _
        exact ⟨om.r.keep (Nat.le_of_eq ob.size.symm) (fun q _ hp => ob.block q (hnb q (hsub q (.inl hp)))), om.s.keep (Nat.le_of_eq ob.size.symm) (fun q _ hp => ob.block q (hnb q (hsub q (.inr hp)))),
          (cell_set_other (by omega)).trans ((cell_set_other (by omega)).trans ((cell_set_other (by omega)).trans ((cell_set_other (by omega)).trans e5))), (((hrs.up.set (show j * 7 < (j + 1) * 7 by omega) u0).set (show j * 7 + 1 < (j + 1) * 7 by omega) u1).set (show j * 7 + 2 < (j + 1) * 7 by omega) u2).set (show j * 7 + 3 < (j + 1) * 7 by omega) u3, hkp.trans (KeptP.of_only ob H.out.2.2.1), by rw [ob.size]; exact bl⟩
      have HG : Hid ((∀ q, PR q → g j q) ∧ (∀ q, PS q → g j q) ∧ (∀ q, PR q → ¬ PS q) ∧ (∀ q, g j q → q ≠ b) ∧ (∀ q, g j q → P q)) := ⟨fun q hq => hsub q (.inl hq), fun q hq => hsub q (.inr hq), om.rs, hnb, fun q hq => H.out.2.2.2.1 j q hlt hq⟩
      have S2 : Hid (∀ u0 u1 u2 u3 w1, KeptP PR ((((wr.setCell ⟨b, j * 7, none⟩ u0).setCell ⟨b, j * 7 + 1, none⟩ u1).setCell ⟨b, j * 7 + 2, none⟩ u2).setCell ⟨b, j * 7 + 3, none⟩ u3) w1 → TRow w w1 B b ts g P j t2 t3 PS) := fun u0 u1 u2 u3 w1 k1 => by
        have R0 := (S1.out u0 u1 u2 u3).2
        have hbk := k1.block b R0.lt (fun e => HG.out.2.2.2.1 b (HG.out.1 b e) rfl)
        exact ⟨R0.s.keep k1.size (fun q hq hp => k1.block q hq (fun e => HG.out.2.2.1 q e hp)), (World.cell?_of_block (a := ⟨b, j * 7 + 5, none⟩) hbk).trans R0.e5, R0.rest.kept k1 R0.lt hlt HG.out.1, R0.kp.trans (k1.mono (fun q hq => HG.out.2.2.2.2 q (HG.out.1 q hq))), Nat.lt_of_lt_of_le R0.lt k1.size⟩
      have HT : Hid (KT.S (atT ts j)) := hT
      have jn : (j : Int) < (ts.length : Int) := by omega
      have g0 : 0 ≤ k + (offG cT ts j : Int) := by omega
      have g1 : k + (offG cT ts j : Int) ≤ 100000000 := by omega
      clear hkp hrs hat om hsub hbd hd hoff hle hnb hT bl e5 hb2
      generalize hK : k + (offG cT ts j : Int) = kj at *
      have tr := HT.out.1
      have ts' := HT.out.2
      go_wp2_with fail
      refine (tx.markNo _ PR t0 t1 (atT ts j).reads _ (by omega) (by omega) HT.out.1 (S1.out _ _ _ _).1).mono ?_
      rintro e w1 ⟨rfl, k1, -⟩
      have k1 := kp_of k1
      have R1 : Hid (TRow w w1 B b ts g P j t2 t3 PS) := S2.out _ _ _ _ _ k1
      clear k1 S1 S2 d0 f0 d1 f1 d2 f2 d3 f3 e4
      have e5 := R1.out.e5
      go_wp2_with fail
      refine (tx.markSe w1 PS t2 t3 (atT ts j).sets _ (by omega) (by omega) HT.out.2 R1.out.s).mono ?_
      rintro e w2 ⟨rfl, k2, -⟩
      have k2 := kp_of k2
      have R2 : Hid (KTk.Rest w2 B b ts.length ts g (j + 1) ∧ KeptP P w w2 ∧ b < w2.heap.size) := by
        have R0 := R1.out
        exact ⟨R0.rest.kept k2 R0.lt hlt HG.out.2.1, R0.kp.trans (k2.mono (fun q hq => HG.out.2.2.2.2 q (HG.out.2.1 q hq))), Nat.lt_of_lt_of_le R0.lt k2.size⟩
      clear k2 R1 e5
      obtain ⟨z6, d6, f6⟩ : ∃ v, w2.cell? ⟨b, j * 7 + 6, none⟩ = some v ∧ w2.frozen? ⟨b, j * 7 + 6, none⟩ = false := R2.out.1.rm (j * 7 + 6) (show _ < ts.length * 7 by omega)
      go_wp2
      exact ⟨⟨j + 1, by omega, by simp, by have := HO.out.1; rw [this]; congr 1; omega, R2.out.2.1.trans (KeptP.of_set w2 _ H.out.2.2.1), R2.out.1.set (show j * 7 + 6 < (j + 1) * 7 by omega) _⟩, by simp [intOf]; omega⟩
    · obtain rfl : j = ts.length := by omega
      have hd : decide ((ts.length : Int) < (ts.length : Int)) = false := by simp
      have KH : Hid (KeptP P w wr) := hkp
      clear hkp hrs
      go_wp2
      go_ret
      exact ⟨rfl, KH.out⟩
end Go.Proofs.YtnhjgomfkfehgaaGreatDoor
namespace Go.Proofs.YtnhjgomfkfehgaaGreatDoor
open Go.RowKit
set_option maxHeartbeats 1000000 in
theorem heldInt64S_any (w : World) (a : Option Addr) (n cap : Nat) (k : Int) (hn : n ≤ 1048576) (hk : 0 ≤ k) (hk' : k ≤ 1000000000) (hs : SlN w w.heap.size a n (marks n k)) :
    Calls Tryz.prog 103 #[.slice a n cap, .int .i64 k] w fun e w' => e = .returned (.int .i64 (k + n)) ∧ w' = w := by
  obtain ⟨_, hs⟩ := hs
  go_enter Tryz.func103, Tryz.ntmps103
  go_wp2
  go_loop [1, 5] (fun v1 v5 => ∃ j : Nat, j ≤ n ∧ v5 = .int .i64 j ∧ v1 = .int .i64 (k + j)) (fun _ v5 => n - (intOf v5).toNat)
  case atStart => exact ⟨0, Nat.zero_le _, rfl, by simp⟩
  case round =>
    obtain ⟨j, hj, rfl, rfl⟩ := hrel
    by_cases hlt : j < n
    · rcases hs with hs | ⟨b, off, rfl, hb, h1⟩
      · omega
      · have c := h1 j _ (marks_at n k j hlt)
        have hq : (k + (j : Int) != k + (j : Int)) = false := by simp
        clear h1
        go_wp2
        exact ⟨⟨j + 1, by omega, by simp, by simp; omega⟩, by simp [intOf]; omega⟩
    · have : j = n := by omega
      subst this
      have hd : decide ((j : Int) < (j : Int)) = false := by simp
      clear hs
      go_wp2
      go_ret
      exact ⟨by simp, rfl⟩
theorem hidOf' {p : Prop} (h : p) : Hid p := h
theorem mkKs_at {ks : List K2} {k : Int} {j : Nat} (h : j < ks.length) : (mkKs ks k)[j]? = some (mkK ks k j) := by simp [mkKs, h]
theorem mkRs_at {ks : List R4} {k : Int} {j : Nat} (h : j < ks.length) : (mkRs ks k)[j]? = some (mkR ks k j) := by simp [mkRs, h]
set_option maxHeartbeats 4000000 in
theorem heldCopyS_any (w : World) (a : Option Addr) (cap : Nat) (ks : List K2) (k : Int) (hk : 0 ≤ k) (hk' : k ≤ 500000000) (ht : offG cK ks ks.length ≤ 100000000) (hn : ks.length ≤ 1048576) (hl : ∀ c ∈ ks, c.cells.length ≤ 1048576) (hs : SlK w w.heap.size a ks.length (mkKs ks k)) :
    Calls Tryz.prog 104 #[.slice a ks.length cap, .int .i64 k] w fun e w' => e = .returned (.int .i64 (k + offG cK ks ks.length)) ∧ w' = w := by
  obtain ⟨_, hs⟩ := hs
  have HL := hidOf' hl
  clear hl
  go_enter Tryz.func104, Tryz.ntmps104
  go_wp2
  go_loop [1, 5] (fun v1 v5 => ∃ j : Nat, j ≤ ks.length ∧ v5 = .int .i64 j ∧ v1 = .int .i64 (k + (offG cK ks j : Int))) (fun _ v5 => ks.length - (intOf v5).toNat)
  case atStart => exact ⟨0, Nat.zero_le _, rfl, by rw [offG_zero]; simp⟩
  case round =>
    obtain ⟨j, hj, rfl, rfl⟩ := hrel
    have hb2 := offG_le cK ks j
    by_cases hlt : j < ks.length
    · rcases hs with hs | ⟨b, off, rfl, hb, h1⟩
      · omega
      have hks : ks[j]? = some (atK ks j) := atK_of hlt
      have hr := h1 j _ (mkKs_at hlt)
      have c0 := hr.c0
      obtain ⟨a', cap', c1, hsl, hcp⟩ := hr.c1
      simp only [mkK, mkCells_len] at c0 c1 hsl
      have hoff : Hid (offG cK ks (j + 1) = offG cK ks j + cK (atK ks j)) := offG_succ cK hks
      have hln := HL.out _ (List.mem_of_getElem? hks)
      have hm := heldCellS_k w a' (atK ks j).cells.length cap' (k + (offG cK ks j : Int) + 1) hln (by omega) (by omega) hsl
      have dN : decide (k + (offG cK ks j : Int) + 1 + 2 * ((atK ks j).cells.length : Int) < 0) = false := by simp; omega
      clear h1 hr hsl hcp hks
      go_wp2_with fail
      refine hm.mono ?_
      clear hm
      rintro e w ⟨rfl, rfl⟩
      go_wp2
      exact ⟨⟨j + 1, by omega, by simp, by rw [hoff.out]; simp [cK]; omega⟩, by simp [intOf]; omega⟩
    · obtain rfl : j = ks.length := by omega
      have hd : decide ((ks.length : Int) < (ks.length : Int)) = false := by simp
      clear hs
      go_wp2
      go_ret
      exact ⟨rfl, rfl⟩
set_option maxHeartbeats 4000000 in
theorem heldRecordS_any (w : World) (a : Option Addr) (cap : Nat) (ks : List R4) (k : Int) (hk : 0 ≤ k) (hk' : k ≤ 500000000) (ht : offG cR ks ks.length ≤ 100000000) (hn : ks.length ≤ 1048576) (hl : ∀ c ∈ ks, c.sets.length ≤ 1048576) (hs : SlR w w.heap.size a ks.length (mkRs ks k)) :
    Calls Tryz.prog 105 #[.slice a ks.length cap, .int .i64 k] w fun e w' => e = .returned (.int .i64 (k + offG cR ks ks.length)) ∧ w' = w := by
  obtain ⟨_, hs⟩ := hs
  have HL := hidOf' hl
  clear hl
  go_enter Tryz.func105, Tryz.ntmps105
  go_wp2
  go_loop [1, 5] (fun v1 v5 => ∃ j : Nat, j ≤ ks.length ∧ v5 = .int .i64 j ∧ v1 = .int .i64 (k + (offG cR ks j : Int))) (fun _ v5 => ks.length - (intOf v5).toNat)
  case atStart => exact ⟨0, Nat.zero_le _, rfl, by rw [offG_zero]; simp⟩
  case round =>
    obtain ⟨j, hj, rfl, rfl⟩ := hrel
    have hb2 := offG_le cR ks j
    by_cases hlt : j < ks.length
    · rcases hs with hs | ⟨b, off, rfl, hb, h1⟩
      · omega
      have hks : ks[j]? = some (atR ks j) := atR_of hlt
      have hr := h1 j _ (mkRs_at hlt)
      have c0 := hr.c0
      have c1 := hr.c1
      have c2 := hr.c2
      obtain ⟨a', cap', c3, hsl, hcp⟩ := hr.c3
      simp only [mkR, mkSets_len] at c0 c1 c2 c3 hsl
      have hoff : Hid (offG cR ks (j + 1) = offG cR ks j + cR (atR ks j)) := offG_succ cR hks
      have hln := HL.out _ (List.mem_of_getElem? hks)
      have hm := heldSetS_k w a' (atR ks j).sets.length cap' (k + (offG cR ks j : Int) + 1 + 1 + 1) hln (by omega) (by omega) hsl
      have dN : decide (k + (offG cR ks j : Int) + 1 + 1 + 1 + 5 * ((atR ks j).sets.length : Int) < 0) = false := by simp; omega
      clear h1 hr hsl hcp hks
      go_wp2_with fail
      refine hm.mono ?_
      clear hm
      rintro e w ⟨rfl, rfl⟩
      go_wp2
      exact ⟨⟨j + 1, by omega, by simp, by rw [hoff.out]; simp [cR]; omega⟩, by simp [intOf]; omega⟩
    · obtain rfl : j = ks.length := by omega
      have hd : decide ((ks.length : Int) < (ks.length : Int)) = false := by simp
      clear hs
      go_wp2
      go_ret
      exact ⟨rfl, rfl⟩
end Go.Proofs.YtnhjgomfkfehgaaGreatDoor
namespace Go.Proofs.YtnhjgomfkfehgaaGreatDoor
open Go.RowKit
open Go.Sort (grow)
def Kd.Done {D V : Type} (K : Kd D V) (X : World) (B b : Nat) (ys : List D) (g : Nat → Nat → Prop) (f : Nat → D) (j : Nat) : Prop := ∀ i, i < j → i < ys.length → ∃ v, At X b (i * K.n) (K.cells v (f i)) ∧ K.Ow X B v (f i) (g i)
theorem Kd.Done.set {D V : Type} {K : Kd D V} {X : World} {B b : Nat} {ys : List D} {g : Nat → Nat → Prop} {f : Nat → D} {j o : Nat} (h : K.Done X B b ys g f j) (hne : ∀ i q, i < ys.length → g i q → q ≠ b) (ho : j * K.n ≤ o) (u : Value) : K.Done (X.setCell ⟨b, o, none⟩ u) B b ys g f j := fun i hi hl => by
  obtain ⟨v, h1, h2⟩ := h i hi hl
  have hm := Nat.mul_le_mul_right K.n (Nat.succ_le_of_lt hi)
  rw [Nat.succ_mul] at hm
  exact ⟨v, fun q u' e => by
    have hq := (List.getElem?_eq_some_iff.1 e).1
    rw [K.len] at hq
    exact (cell_set_other (by omega)).trans (h1 q u' e), K.keep h2 (by simp [World.setCell]) (fun q hq => Below.heap_setCell _ _ _ _ (hne i q hl hq))⟩
theorem Kd.Done.kept {D V : Type} {K : Kd D V} {X Y : World} {B b : Nat} {ys : List D} {g : Nat → Nat → Prop} {f : Nat → D} {j : Nat} {Q : Nat → Prop} (h : K.Done X B b ys g f j) (hne : ∀ i q, i < ys.length → g i q → q ≠ b) (hap : ∀ i j q, i < ys.length → j < ys.length → i ≠ j → g i q → ¬ g j q) (hk : KeptP Q X Y) (hb : b < X.heap.size) (hj : j < ys.length) (hQ : ∀ q, Q q → g j q) : K.Done Y B b ys g f j := fun i hi hl => by
  obtain ⟨v, h1, h2⟩ := h i hi hl
  have hbb : Y.heap[b]? = X.heap[b]? := hk.block b hb (fun e => hne j b hj (hQ b e) rfl)
  exact ⟨v, h1.of_block hbb, K.keep h2 hk.size (fun q hq => hk.block q (K.of h2 hq).2 (fun e => hap i j q hl hj (by omega) hq (hQ q e)))⟩
theorem Kd.Done.step {D V : Type} {K : Kd D V} {X : World} {B b : Nat} {ys : List D} {g : Nat → Nat → Prop} {f : Nat → D} {j : Nat} (h : K.Done X B b ys g f j) (v : V) (h1 : At X b (j * K.n) (K.cells v (f j))) (h2 : K.Ow X B v (f j) (g j)) : K.Done X B b ys g f (j + 1) := fun i hi hl => by
  by_cases e : i = j
  · subst e; exact ⟨v, h1, h2⟩
  · exact h i (by omega) hl
theorem Kd.Done.part {D V : Type} {K : Kd D V} {X : World} {B b : Nat} {ys : List D} {g : Nat → Nat → Prop} {f : Nat → D} (h : K.Done X B b ys g f ys.length) (hr : K.Rest X B b ys.length ys g ys.length) : K.Part X B b ys.length ((List.range ys.length).map f) g := by
  refine ⟨hr.rm, fun i d hi => ?_, fun i q hi => hr.ne i q (by simpa using hi), fun i j q hi hj => hr.ap i j q (by simpa using hi) (by simpa using hj)⟩
  have hl : i < ys.length := by have := (List.getElem?_eq_some_iff.1 hi).1; simpa using this
  simp [hl] at hi
  subst hi
  exact h i hl hl
def mkMi (ms : List M4) (k : Int) (i : Nat) : M4 := ⟨(k + offG cM ms i) % 3 == 0, mkKs (atM ms i).copies (k + offG cM ms i + 1), mkRs (atM ms i).log (k + offG cM ms i + 1 + offG cK (atM ms i).copies (atM ms i).copies.length), marks (atM ms i).cleared.length (k + offG cM ms i + 1 + offG cK (atM ms i).copies (atM ms i).copies.length + offG cR (atM ms i).log (atM ms i).log.length)⟩
def mkMs (ms : List M4) (k : Int) : List M4 := (List.range ms.length).map (mkMi ms k)
theorem mkMs_len (ms : List M4) (k : Int) : (mkMs ms k).length = ms.length := by simp [mkMs]
theorem mkMs_at {ms : List M4} {k : Int} {j : Nat} (h : j < ms.length) : (mkMs ms k)[j]? = some (mkMi ms k j) := by simp [mkMs, h]
structure MRn (w X : World) (B b : Nat) (ms : List M4) (g : Nat → Nat → Prop) (P : Nat → Prop) (f : Nat → M4) (j : Nat) (x : Bool) (a1 : Option Addr) (c1 : Nat) (a2 : Option Addr) (c2 : Nat) (a3 : Option Addr) (c3 : Nat) (ks : List K2) (rs : List R4) (zs : List Int) (PK PR PD : Nat → Prop) : Prop where
  k : OwnL 2 hdK lnK AtK X PK a1 ks
  r : OwnL 4 hdR lnR AtR X PR a2 rs
  n : OwnN X PD a3 zs
  at_ : At X b (j * 4) [.bool x, .slice a1 ks.length c1, .slice a2 rs.length c2, .slice a3 zs.length c3]
  rest : KMk.Rest X B b ms.length ms g (j + 1)
  done : KMk.Done X B b ms g f j
  kp : KeptP P w X
  lt : b < X.heap.size
theorem MRn.step {w X Y : World} {B b : Nat} {ms : List M4} {g : Nat → Nat → Prop} {P : Nat → Prop} {f : Nat → M4} {j : Nat} {x : Bool} {a1 : Option Addr} {c1 : Nat} {a2 : Option Addr} {c2 : Nat} {a3 : Option Addr} {c3 : Nat} {ks ks' : List K2} {rs rs' : List R4} {zs zs' : List Int} {PK PR PD Q : Nat → Prop} (h : MRn w X B b ms g P f j x a1 c1 a2 c2 a3 c3 ks rs zs PK PR PD) (hj : j < ms.length) (hk : KeptP Q X Y) (hQ : ∀ q, Q q → g j q) (hP : ∀ q, g j q → P q) (k' : OwnL 2 hdK lnK AtK Y PK a1 ks') (lk : ks'.length = ks.length) (r' : OwnL 4 hdR lnR AtR Y PR a2 rs') (lr : rs'.length = rs.length) (n' : OwnN Y PD a3 zs') (lz : zs'.length = zs.length) : MRn w Y B b ms g P f j x a1 c1 a2 c2 a3 c3 ks' rs' zs' PK PR PD := by
  have hbk := hk.block b h.lt (fun e => h.rest.ne j b hj (hQ b e) rfl)
  refine ⟨k', r', n', ?_, h.rest.kept hk h.lt hj hQ, h.done.kept h.rest.ne h.rest.ap hk h.lt hj hQ, h.kp.trans (hk.mono (fun q hq => hP q (hQ q hq))), Nat.lt_of_lt_of_le h.lt hk.size⟩
  rw [lk, lr, lz]
  exact h.at_.of_block hbk
set_option maxRecDepth 100000 in
set_option maxHeartbeats 4000000 in
theorem markMn (w : World) (B b cap : Nat) (ms : List M4) (g : Nat → Nat → Prop) (P : Nat → Prop) (k : Int) (hk : 0 ≤ k) (hk' : k + (offG cM ms ms.length : Int) ≤ 100000000) (hn : ms.length ≤ 1048576) (ht : ∀ m ∈ ms, MT m) (hb : b < w.heap.size) (hPb : P b) (hPg : ∀ i q, i < ms.length → g i q → P q) (h : KMk.Part w B b ms.length ms g) :
    Calls Tryz.prog 45 #[.slice (some ⟨b, 0, none⟩) ms.length cap, .int .i64 k] w fun e w' => e = .returned (.int .i64 (k + (offG cM ms ms.length : Int))) ∧ KeptP P w w' ∧ KMk.Part w' B b ms.length (mkMs ms k) g := by
  have H : Hid ((∀ m ∈ ms, MT m) ∧ b < w.heap.size ∧ P b ∧ (∀ i q, i < ms.length → g i q → P q) ∧ KMk.Part w B b ms.length ms g) := ⟨ht, hb, hPb, hPg, h⟩
  clear ht hb hPb hPg h
  go_enter Tryz.func45, Tryz.ntmps45
  go_wp2
  go_loopw [1, 5] (fun v1 v5 wr => ∃ j : Nat, j ≤ ms.length ∧ v5 = .int .i64 j ∧ v1 = .int .i64 (k + (offG cM ms j : Int)) ∧ KeptP P w wr ∧ KMk.Rest wr B b ms.length ms g j ∧ KMk.Done wr B b ms g (mkMi ms k) j) (fun _ v5 _ => ms.length - (intOf v5).toNat)
  case atStart => exact ⟨0, Nat.zero_le _, rfl, by rw [offG_zero]; simp, KeptP.refl _ _, H.out.2.2.2.2.rest, fun i hi => absurd hi (Nat.not_lt_zero i)⟩
  case round =>
    obtain ⟨j, hj, rfl, rfl, hkp, hrs, hdn⟩ := hrel
    have hb2 := offG_le cM ms j
    by_cases hlt : j < ms.length
    · have hd := atM_of hlt
      obtain ⟨⟨m0, m1, m2, m3, m4, m5⟩, hat, how⟩ := hrs.at_ j _ (Nat.le_refl _) hd
      obtain ⟨PK, PR, PD, om, hsub, hbd⟩ := how
      obtain ⟨z0, d0, f0⟩ : ∃ v, wr.cell? ⟨b, j * 4, none⟩ = some v ∧ wr.frozen? ⟨b, j * 4, none⟩ = false := hrs.rm (j * 4) (show _ < ms.length * 4 by omega)
      have e1 : wr.cell? ⟨b, j * 4 + 1, none⟩ = some (.slice m0 (atM ms j).copies.length m1) := hat 1 _ rfl
      have e2 : wr.cell? ⟨b, j * 4 + 2, none⟩ = some (.slice m2 (atM ms j).log.length m3) := hat 2 _ rfl
      have e3 : wr.cell? ⟨b, j * 4 + 3, none⟩ = some (.slice m4 (atM ms j).cleared.length m5) := hat 3 _ rfl
      have hT := H.out.1 _ (List.mem_of_getElem? hd)
      have hoff : offG cM ms (j + 1) = offG cM ms j + cM (atM ms j) := offG_succ cM hd
      have hle := offG_le cM ms (j + 1)
      have HO : Hid (offG cM ms (j + 1) = offG cM ms j + (1 + (offG cK (atM ms j).copies (atM ms j).copies.length + offG cR (atM ms j).log (atM ms j).log.length + (atM ms j).cleared.length)) ∧ k + (offG cM ms (j + 1) : Int) ≤ 100000000) := ⟨hoff, by omega⟩
      have hnb : ∀ q, g j q → q ≠ b := fun q hq => hrs.ne j q hlt hq
      have bl : b < wr.heap.size := Nat.lt_of_lt_of_le H.out.2.1 hkp.size
      obtain ⟨V, hV⟩ : ∃ V, V = wr.setCell ⟨b, j * 4, none⟩ (.bool ((k + (offG cM ms j : Int)) % 3 == 0)) := ⟨_, rfl⟩
      have S1 : Hid (MRn w V B b ms g P (mkMi ms k) j ((k + (offG cM ms j : Int)) % 3 == 0) m0 m1 m2 m3 m4 m5 (atM ms j).copies (atM ms j).log (atM ms j).cleared PK PR PD) := by
        rw [hV]
        have hsz : wr.heap.size ≤ (wr.setCell ⟨b, j * 4, none⟩ (.bool ((k + (offG cM ms j : Int)) % 3 == 0))).heap.size := by simp [World.setCell]
        refine ⟨om.k.keep AtK.of_block hsz (fun q _ hp => Below.heap_setCell _ _ _ _ (hnb q (hsub q (.inl hp)))), om.r.keep AtR.of_block hsz (fun q _ hp => Below.heap_setCell _ _ _ _ (hnb q (hsub q (.inr (.inl hp))))), om.n.keep hsz (fun q _ hp => Below.heap_setCell _ _ _ _ (hnb q (hsub q (.inr (.inr hp))))),
          ?_, hrs.up.set (show j * 4 < (j + 1) * 4 by omega) _, hdn.set hrs.ne (show j * 4 ≤ j * 4 by omega) _, hkp.trans (KeptP.of_set wr _ H.out.2.2.1), Nat.lt_of_lt_of_le bl hsz⟩
        intro i u hu
        rcases i with _ | _ | _ | _ | i
        · simp at hu; subst hu; exact cell_set_same d0
        · simp at hu; subst hu; exact (cell_set_other (by omega)).trans e1
        · simp at hu; subst hu; exact (cell_set_other (by omega)).trans e2
        · simp at hu; subst hu; exact (cell_set_other (by omega)).trans e3
        · simp at hu
      have HG : Hid ((∀ q, PK q → g j q) ∧ (∀ q, PR q → g j q) ∧ (∀ q, PD q → g j q) ∧ (∀ q, PK q → ¬ PR q) ∧ (∀ q, PK q → ¬ PD q) ∧ (∀ q, PR q → ¬ PD q) ∧ (∀ q, g j q → P q) ∧ (∀ q, PK q → B ≤ q) ∧ (∀ q, PR q → B ≤ q) ∧ (∀ q, PD q → B ≤ q) ∧ (∀ q, g j q → B ≤ q ∧ q < wr.heap.size) ∧ wr.heap.size ≤ V.heap.size) := ⟨fun q hq => hsub q (.inl hq), fun q hq => hsub q (.inr (.inl hq)), fun q hq => hsub q (.inr (.inr hq)), om.kr, om.kd, om.rd, fun q hq => H.out.2.2.2.1 j q hlt hq, om.kB, om.rB, om.dB, hbd, by rw [hV]; simp [World.setCell]⟩
      have HT : Hid (MT (atM ms j)) := hT
      have jn : (j : Int) < (ms.length : Int) := by omega
      have g0 : 0 ≤ k + (offG cM ms j : Int) := by omega
      have g1 : k + (offG cM ms j : Int) ≤ 100000000 := by omega
      have HI : Hid (mkMi ms k j = ⟨(k + offG cM ms j) % 3 == 0, mkKs (atM ms j).copies (k + offG cM ms j + 1), mkRs (atM ms j).log (k + offG cM ms j + 1 + offG cK (atM ms j).copies (atM ms j).copies.length), marks (atM ms j).cleared.length (k + offG cM ms j + 1 + offG cK (atM ms j).copies (atM ms j).copies.length + offG cR (atM ms j).log (atM ms j).log.length)⟩) := rfl
      clear hkp hrs hdn hat om hsub hbd hd hoff hle hnb hT bl e2 e3 hb2
      generalize hK : k + (offG cM ms j : Int) = kj at *
      go_wp2_with fail
      rw [← hV]
      clear hV
      refine (markK V PK m0 m1 (atM ms j).copies (kj + 1) (by omega) (by omega) HT.out.tk HT.out.k HT.out.ks S1.out.k).mono ?_
      rintro e w1 ⟨rfl, k1, o1⟩
      have R1 : Hid (MRn w w1 B b ms g P (mkMi ms k) j (kj % 3 == 0) m0 m1 m2 m3 m4 m5 (mkKs (atM ms j).copies (kj + 1)) (atM ms j).log (atM ms j).cleared PK PR PD ∧ V.heap.size ≤ w1.heap.size) := ⟨S1.out.step hlt k1 HG.out.1 HG.out.2.2.2.2.2.2.1 o1 (mkKs_len _ _) (S1.out.r.keep AtR.of_block k1.size (fun q hq hp => k1.block q hq (fun e => HG.out.2.2.2.1 q e hp))) rfl (S1.out.n.keep k1.size (fun q hq hp => k1.block q hq (fun e => HG.out.2.2.2.2.1 q e hp))) rfl, k1.size⟩
      clear k1 o1 S1 d0 f0 e1
      have e2 : w1.cell? ⟨b, j * 4 + 2, none⟩ = some (.slice m2 (atM ms j).log.length m3) := R1.out.1.at_ 2 _ rfl
      have tk := HT.out.tk
      have tr := HT.out.tr
      have tn := HT.out.n
      go_wp2_with fail
      refine (markR w1 PR m2 m3 (atM ms j).log _ (by omega) (by omega) HT.out.tr HT.out.r HT.out.rs R1.out.1.r).mono ?_
      rintro e w2 ⟨rfl, k2, o2⟩
      have R2 : Hid (MRn w w2 B b ms g P (mkMi ms k) j (kj % 3 == 0) m0 m1 m2 m3 m4 m5 (mkKs (atM ms j).copies (kj + 1)) (mkRs (atM ms j).log (kj + 1 + offG cK (atM ms j).copies (atM ms j).copies.length)) (atM ms j).cleared PK PR PD ∧ V.heap.size ≤ w2.heap.size) := ⟨R1.out.1.step hlt k2 HG.out.2.1 HG.out.2.2.2.2.2.2.1 (R1.out.1.k.keep AtK.of_block k2.size (fun q hq hp => k2.block q hq (fun e => HG.out.2.2.2.1 q hp e))) rfl o2 (mkRs_len _ _) (R1.out.1.n.keep k2.size (fun q hq hp => k2.block q hq (fun e => HG.out.2.2.2.2.2.1 q e hp))) rfl, Nat.le_trans R1.out.2 k2.size⟩
      clear k2 o2 R1 e2
      have e3 : w2.cell? ⟨b, j * 4 + 3, none⟩ = some (.slice m4 (atM ms j).cleared.length m5) := R2.out.1.at_ 3 _ rfl
      go_wp2_with fail
      refine (markN w2 PD m4 m5 (atM ms j).cleared _ (by omega) (by omega) HT.out.n R2.out.1.n).mono ?_
      rintro e w3 ⟨rfl, k3, o3⟩
      have R3 : Hid (KMk.Rest w3 B b ms.length ms g (j + 1) ∧ KeptP P w w3 ∧ KMk.Done w3 B b ms g (mkMi ms k) (j + 1)) := by
        have R0 := R2.out.1.step hlt k3 HG.out.2.2.1 HG.out.2.2.2.2.2.2.1 (R2.out.1.k.keep AtK.of_block k3.size (fun q hq hp => k3.block q hq (fun e => HG.out.2.2.2.2.1 q hp e))) rfl (R2.out.1.r.keep AtR.of_block k3.size (fun q hq hp => k3.block q hq (fun e => HG.out.2.2.2.2.2.1 q hp e))) rfl o3 (marks_len _ _)
        obtain ⟨h1, h2, h3, h4, h5, h6, h7, h8, h9, h10, h11, h12⟩ := HG.out
        have hsz := Nat.le_trans R2.out.2 k3.size
        refine ⟨R0.rest, R0.kp, R0.done.step ⟨m0, m1, m2, m3, m4, m5⟩ ?_ ?_⟩
        · rw [HI.out]; exact R0.at_
        · rw [HI.out]
          exact ⟨PK, PR, PD, ⟨R0.k, R0.r, R0.n, h4, h5, h6, h8, h9, h10⟩, fun q hq => by rcases hq with hq | hq | hq; exact h1 q hq; exact h2 q hq; exact h3 q hq, fun q hq => ⟨(h11 q hq).1, by have := (h11 q hq).2; omega⟩⟩
      clear k3 o3 R2 e3
      go_wp2
      exact ⟨⟨j + 1, by omega, by simp, by have := HO.out.1; rw [this]; congr 1; omega, R3.out.2.1, R3.out.1, R3.out.2.2⟩, by simp [intOf]; omega⟩
    · obtain rfl : j = ms.length := by omega
      have hd : decide ((ms.length : Int) < (ms.length : Int)) = false := by simp
      have KH : Hid (KeptP P w wr ∧ KMk.Part wr B b ms.length (mkMs ms k) g) := ⟨hkp, hdn.part hrs⟩
      clear hkp hrs hdn
      go_wp2
      go_ret
      exact ⟨rfl, KH.out.1, KH.out.2⟩
set_option maxRecDepth 100000 in
set_option maxHeartbeats 4000000 in
theorem heldMn (w : World) (a : Option Addr) (cap : Nat) (ms : List M4) (k : Int) (hk : 0 ≤ k) (hk' : k + (offG cM ms ms.length : Int) ≤ 100000000) (hn : ms.length ≤ 1048576) (ht : ∀ m ∈ ms, MT m) (h : KMk.RdS w a (mkMs ms k)) :
    Calls Tryz.prog 48 #[.slice a ms.length cap, .int .i64 k] w fun e w' => e = .returned (.int .i64 (k + (offG cM ms ms.length : Int))) ∧ Below w.heap.size w w' := by
  have H : Hid ((∀ m ∈ ms, MT m) ∧ KMk.RdS w a (mkMs ms k)) := ⟨ht, h⟩
  clear ht h
  go_enter Tryz.func48, Tryz.ntmps48
  go_wp2
  go_loopw [1, 5] (fun v1 v5 wr => ∃ j : Nat, j ≤ ms.length ∧ v5 = .int .i64 j ∧ v1 = .int .i64 (k + (offG cM ms j : Int)) ∧ Below w.heap.size w wr) (fun _ v5 _ => ms.length - (intOf v5).toNat)
  case atStart => exact ⟨0, Nat.zero_le _, rfl, by rw [offG_zero]; simp, Below.refl _ _⟩
  case round =>
    obtain ⟨j, hj, rfl, rfl, hbl⟩ := hrel
    have hb2 := offG_le cM ms j
    by_cases hlt : j < ms.length
    · have hd := atM_of hlt
      have hrd := H.out.2.later hbl
      rcases hrd with h0 | ⟨b, off, rfl, hb, hrd⟩
      · have := mkMs_len ms k; rw [h0] at this; simp at this; omega
      obtain ⟨⟨m0, m1, m2, m3, m4, m5⟩, hat, how⟩ := hrd j _ (mkMs_at hlt)
      have e0 : wr.cell? ⟨b, off + j * 4, none⟩ = some (.bool ((k + (offG cM ms j : Int)) % 3 == 0)) := hat 0 _ rfl
      have e1 : wr.cell? ⟨b, off + j * 4 + 1, none⟩ = some (.slice m0 (mkMi ms k j).copies.length m1) := hat 1 _ rfl
      have e2 : wr.cell? ⟨b, off + j * 4 + 2, none⟩ = some (.slice m2 (mkMi ms k j).log.length m3) := hat 2 _ rfl
      have e3 : wr.cell? ⟨b, off + j * 4 + 3, none⟩ = some (.slice m4 (mkMi ms k j).cleared.length m5) := hat 3 _ rfl
      have l1 : (mkMi ms k j).copies.length = (atM ms j).copies.length := mkKs_len _ _
      have l2 : (mkMi ms k j).log.length = (atM ms j).log.length := mkRs_len _ _
      have l3 : (mkMi ms k j).cleared.length = (atM ms j).cleared.length := marks_len _ _
      rw [l1] at e1
      rw [l2] at e2
      rw [l3] at e3
      obtain ⟨sk, sr, sn⟩ := how
      simp only at sk sr sn
      rw [l1] at sk
      rw [l2] at sr
      rw [l3] at sn
      have hT := H.out.1 _ (List.mem_of_getElem? hd)
      have hoff : offG cM ms (j + 1) = offG cM ms j + cM (atM ms j) := offG_succ cM hd
      have hle := offG_le cM ms (j + 1)
      have HO : Hid (offG cM ms (j + 1) = offG cM ms j + (1 + (offG cK (atM ms j).copies (atM ms j).copies.length + offG cR (atM ms j).log (atM ms j).log.length + (atM ms j).cleared.length)) ∧ k + (offG cM ms (j + 1) : Int) ≤ 100000000) := ⟨hoff, by omega⟩
      have S : Hid (Below w.heap.size w wr ∧ SlK wr wr.heap.size m0 (atM ms j).copies.length (mkKs (atM ms j).copies (k + offG cM ms j + 1)) ∧ SlR wr wr.heap.size m2 (atM ms j).log.length (mkRs (atM ms j).log (k + offG cM ms j + 1 + offG cK (atM ms j).copies (atM ms j).copies.length)) ∧ SlN wr wr.heap.size m4 (atM ms j).cleared.length (marks (atM ms j).cleared.length (k + offG cM ms j + 1 + offG cK (atM ms j).copies (atM ms j).copies.length + offG cR (atM ms j).log (atM ms j).log.length)) ∧ b < wr.heap.size) := ⟨hbl, sk, sr, sn, hb⟩
      have HT : Hid (MT (atM ms j)) := hT
      have jn : (j : Int) < (ms.length : Int) := by omega
      have g0 : 0 ≤ k + (offG cM ms j : Int) := by omega
      have g1 : k + (offG cM ms j : Int) ≤ 100000000 := by omega
      clear hbl hrd hat sk sr sn hd hoff hle hT hb l1 l2 l3 hb2
      have tk := HT.out.tk
      have tr := HT.out.tr
      have tn := HT.out.n
      generalize hK : k + (offG cM ms j : Int) = kj at *
      have dx : ((kj % 3 == 0) != (kj % 3 == 0)) = false := by simp
      have d1 : decide (kj + 1 + (offG cK (atM ms j).copies (atM ms j).copies.length : Int) < 0) = false := by simp; omega
      have d2 : decide (kj + 1 + (offG cK (atM ms j).copies (atM ms j).copies.length : Int) + (offG cR (atM ms j).log (atM ms j).log.length : Int) < 0) = false := by simp; omega
      have d3 : decide (kj + 1 + (offG cK (atM ms j).copies (atM ms j).copies.length : Int) + (offG cR (atM ms j).log (atM ms j).log.length : Int) + ((atM ms j).cleared.length : Int) < 0) = false := by simp; omega
      go_wp2_with fail
      refine (heldCopyS_any wr m0 m1 (atM ms j).copies (kj + 1) (by omega) (by omega) HT.out.tk HT.out.k HT.out.ks S.out.2.1).mono ?_
      rintro e w1 ⟨rfl, rfl⟩
      go_wp2_with fail
      refine (heldRecordS_any w1 m2 m3 (atM ms j).log _ (by omega) (by omega) HT.out.tr HT.out.r HT.out.rs S.out.2.2.1).mono ?_
      rintro e w2 ⟨rfl, rfl⟩
      go_wp2_with fail
      refine (heldInt64S_any w2 m4 (atM ms j).cleared.length m5 _ (by omega) (by omega) (by omega) S.out.2.2.2.1).mono ?_
      rintro e w3 ⟨rfl, rfl⟩
      go_wp2
      exact ⟨⟨j + 1, by omega, by simp, by have := HO.out.1; rw [this]; congr 1; omega, S.out.1⟩, by simp [intOf]; omega⟩
    · obtain rfl : j = ms.length := by omega
      have hd : decide ((ms.length : Int) < (ms.length : Int)) = false := by simp
      have KH : Hid (Below w.heap.size w wr) := hbl
      clear hbl
      go_wp2
      go_ret
      exact ⟨rfl, KH.out⟩
def mkTk (t : tx.T7) (kk : Int) : tx.T7 := ⟨kk, kk + 1, kk + 1 + 1, kk + 1 + 1 + 1, tx.mkNotes (kk + 1 + 1 + 1 + 1) t.reads.length, tx.mkSets (kk + 1 + 1 + 1 + 1 + 5 * (t.reads.length : Int)) t.sets.length, kk + 1 + 1 + 1 + 1 + 5 * (t.reads.length : Int) + 5 * (t.sets.length : Int)⟩
def mkTi (ts : List tx.T7) (k : Int) (i : Nat) : tx.T7 := mkTk (atT ts i) (k + offG cT ts i)
def mkTs (ts : List tx.T7) (k : Int) : List tx.T7 := (List.range ts.length).map (mkTi ts k)
theorem mkTs_len (ts : List tx.T7) (k : Int) : (mkTs ts k).length = ts.length := by simp [mkTs]
theorem mkTs_at {ts : List tx.T7} {k : Int} {j : Nat} (h : j < ts.length) : (mkTs ts k)[j]? = some (mkTi ts k j) := by simp [mkTs, h]
theorem At.far {X : World} {b o p : Nat} {cs : List Value} (h : At X b o cs) (hp : p < o ∨ o + cs.length ≤ p) (u : Value) : At (X.setCell ⟨b, p, none⟩ u) b o cs := fun j v hv => by
  have := (List.getElem?_eq_some_iff.1 hv).1
  exact (cell_set_other (by omega)).trans (h j v hv)
theorem At.put {X : World} {b o i : Nat} {cs : List Value} (h : At X b o cs) (hi : i < cs.length) (u : Value) : At (X.setCell ⟨b, o + i, none⟩ u) b o (cs.set i u) := fun j v hv => by
  by_cases hj : i = j
  · subst hj
    rw [List.getElem?_set_self hi] at hv
    obtain rfl := Option.some.inj hv
    exact cell_set_same (h i _ (List.getElem?_eq_getElem hi))
  · rw [List.getElem?_set_ne hj] at hv
    exact (cell_set_other (by omega)).trans (h j v hv)
structure TRn (w X : World) (B b : Nat) (ts : List tx.T7) (g : Nat → Nat → Prop) (P : Nat → Prop) (f : Nat → tx.T7) (j : Nat) (cs : List Value) (a1 a2 : Option Addr) (ns : List tx.N5) (ss : List S5) (PR PS : Nat → Prop) : Prop where
  r : tx.OwnNo X PR a1 ns
  s : tx.OwnSe X PS a2 ss
  at_ : At X b (j * 7) cs
  rest : KTk.Rest X B b ts.length ts g (j + 1)
  done : KTk.Done X B b ts g f j
  kp : KeptP P w X
  lt : b < X.heap.size
theorem TRn.put {w X : World} {B b : Nat} {ts : List tx.T7} {g : Nat → Nat → Prop} {P : Nat → Prop} {f : Nat → tx.T7} {j : Nat} {cs : List Value} {a1 a2 : Option Addr} {ns : List tx.N5} {ss : List S5} {PR PS : Nat → Prop} (h : TRn w X B b ts g P f j cs a1 a2 ns ss PR PS) (hj : j < ts.length) (hPb : P b) (h1 : ∀ q, PR q → g j q) (h2 : ∀ q, PS q → g j q) (i : Nat) (hi : i < cs.length) (h7 : i < 7) (u : Value) : TRn w (X.setCell ⟨b, j * 7 + i, none⟩ u) B b ts g P f j (cs.set i u) a1 a2 ns ss PR PS := by
  have hsz : X.heap.size ≤ (X.setCell ⟨b, j * 7 + i, none⟩ u).heap.size := by simp [World.setCell]
  exact ⟨h.r.keep hsz (fun q _ hp => Below.heap_setCell _ _ _ _ (h.rest.ne j q hj (h1 q hp))), h.s.keep hsz (fun q _ hp => Below.heap_setCell _ _ _ _ (h.rest.ne j q hj (h2 q hp))), h.at_.put hi u, h.rest.set (show j * 7 + i < (j + 1) * 7 by omega) u, h.done.set h.rest.ne (show j * 7 ≤ j * 7 + i by omega) u, h.kp.trans (KeptP.of_set X u hPb), Nat.lt_of_lt_of_le h.lt hsz⟩
theorem TRn.step {w X Y : World} {B b : Nat} {ts : List tx.T7} {g : Nat → Nat → Prop} {P : Nat → Prop} {f : Nat → tx.T7} {j : Nat} {cs : List Value} {a1 a2 : Option Addr} {ns ns' : List tx.N5} {ss ss' : List S5} {PR PS Q : Nat → Prop} (h : TRn w X B b ts g P f j cs a1 a2 ns ss PR PS) (hj : j < ts.length) (hk : KeptP Q X Y) (hQ : ∀ q, Q q → g j q) (hP : ∀ q, g j q → P q) (r' : tx.OwnNo Y PR a1 ns') (s' : tx.OwnSe Y PS a2 ss') : TRn w Y B b ts g P f j cs a1 a2 ns' ss' PR PS := by
  have hbk := hk.block b h.lt (fun e => h.rest.ne j b hj (hQ b e) rfl)
  exact ⟨r', s', h.at_.of_block hbk, h.rest.kept hk h.lt hj hQ, h.done.kept h.rest.ne h.rest.ap hk h.lt hj hQ, h.kp.trans (hk.mono (fun q hq => hP q (hQ q hq))), Nat.lt_of_lt_of_le h.lt hk.size⟩
set_option maxRecDepth 100000 in
set_option maxHeartbeats 4000000 in
theorem markTn (w : World) (B b cap : Nat) (ts : List tx.T7) (g : Nat → Nat → Prop) (P : Nat → Prop) (k : Int) (hk : 0 ≤ k) (hk' : k + (offG cT ts ts.length : Int) ≤ 100000000) (hn : ts.length ≤ 1048576) (ht : ∀ t ∈ ts, KT.S t) (hb : b < w.heap.size) (hPb : P b) (hPg : ∀ i q, i < ts.length → g i q → P q) (h : KTk.Part w B b ts.length ts g) :
    Calls Tryz.prog 46 #[.slice (some ⟨b, 0, none⟩) ts.length cap, .int .i64 k] w fun e w' => e = .returned (.int .i64 (k + (offG cT ts ts.length : Int))) ∧ KeptP P w w' ∧ KTk.Part w' B b ts.length (mkTs ts k) g := by
  have H : Hid ((∀ t ∈ ts, KT.S t) ∧ b < w.heap.size ∧ P b ∧ (∀ i q, i < ts.length → g i q → P q) ∧ KTk.Part w B b ts.length ts g) := ⟨ht, hb, hPb, hPg, h⟩
  clear ht hb hPb hPg h
  go_enter Tryz.func46, Tryz.ntmps46
  go_wp2
  go_loopw [1, 5] (fun v1 v5 wr => ∃ j : Nat, j ≤ ts.length ∧ v5 = .int .i64 j ∧ v1 = .int .i64 (k + (offG cT ts j : Int)) ∧ KeptP P w wr ∧ KTk.Rest wr B b ts.length ts g j ∧ KTk.Done wr B b ts g (mkTi ts k) j) (fun _ v5 _ => ts.length - (intOf v5).toNat)
  case atStart => exact ⟨0, Nat.zero_le _, rfl, by rw [offG_zero]; simp, KeptP.refl _ _, H.out.2.2.2.2.rest, fun i hi => absurd hi (Nat.not_lt_zero i)⟩
  case round =>
    obtain ⟨j, hj, rfl, rfl, hkp, hrs, hdn⟩ := hrel
    have hb2 := offG_le cT ts j
    by_cases hlt : j < ts.length
    · have hd := atT_of hlt
      obtain ⟨⟨t0, t1, t2, t3⟩, hat, how⟩ := hrs.at_ j _ (Nat.le_refl _) hd
      obtain ⟨PR, PS, om, hsub, hbd⟩ := how
      obtain ⟨z0, d0, f0⟩ : ∃ v, wr.cell? ⟨b, j * 7, none⟩ = some v ∧ wr.frozen? ⟨b, j * 7, none⟩ = false := hrs.rm (j * 7 + 0) (show _ < ts.length * 7 by omega)
      obtain ⟨z1, d1, f1⟩ : ∃ v, wr.cell? ⟨b, j * 7 + 1, none⟩ = some v ∧ wr.frozen? ⟨b, j * 7 + 1, none⟩ = false := hrs.rm (j * 7 + 1) (show _ < ts.length * 7 by omega)
      obtain ⟨z2, d2, f2⟩ : ∃ v, wr.cell? ⟨b, j * 7 + 2, none⟩ = some v ∧ wr.frozen? ⟨b, j * 7 + 2, none⟩ = false := hrs.rm (j * 7 + 2) (show _ < ts.length * 7 by omega)
      obtain ⟨z3, d3, f3⟩ : ∃ v, wr.cell? ⟨b, j * 7 + 3, none⟩ = some v ∧ wr.frozen? ⟨b, j * 7 + 3, none⟩ = false := hrs.rm (j * 7 + 3) (show _ < ts.length * 7 by omega)
      have e4 : wr.cell? ⟨b, j * 7 + 4, none⟩ = some (.slice t0 (atT ts j).reads.length t1) := hat 4 _ rfl
      have hT := H.out.1 _ (List.mem_of_getElem? hd)
      have hoff : offG cT ts (j + 1) = offG cT ts j + cT (atT ts j) := offG_succ cT hd
      have hle := offG_le cT ts (j + 1)
      have HO : Hid (offG cT ts (j + 1) = offG cT ts j + (5 + (5 * (atT ts j).reads.length + 5 * (atT ts j).sets.length)) ∧ k + (offG cT ts (j + 1) : Int) ≤ 100000000) := ⟨hoff, by omega⟩
      have bl : b < wr.heap.size := Nat.lt_of_lt_of_le H.out.2.1 hkp.size
      have HI : Hid (mkTi ts k j = mkTk (atT ts j) (k + (offG cT ts j : Int))) := rfl
      have HG : Hid ((∀ q, PR q → g j q) ∧ (∀ q, PS q → g j q) ∧ (∀ q, PR q → ¬ PS q) ∧ (∀ q, g j q → P q) ∧ (∀ q, PR q → B ≤ q) ∧ (∀ q, PS q → B ≤ q) ∧ (∀ q, g j q → B ≤ q ∧ q < wr.heap.size)) := ⟨fun q hq => hsub q (.inl hq), fun q hq => hsub q (.inr hq), om.rs, fun q hq => H.out.2.2.2.1 j q hlt hq, fun q hq => (om.rB q hq).1, fun q hq => (om.sB q hq).1, hbd⟩
      have S0 : TRn w wr B b ts g P (mkTi ts k) j [.int .i64 (atT ts j).id, .int .i64 (atT ts j).home, .int .i64 (atT ts j).phase, .int .i64 (atT ts j).count, .slice t0 (atT ts j).reads.length t1, .slice t2 (atT ts j).sets.length t3, .int .i64 (atT ts j).stamp] t0 t2 (atT ts j).reads (atT ts j).sets PR PS := ⟨om.r, om.s, hat, hrs.up, hdn, hkp, bl⟩
      obtain ⟨V, hV⟩ : ∃ V, V = ((((wr.setCell ⟨b, j * 7, none⟩ (.int .i64 (k + (offG cT ts j : Int)))).setCell ⟨b, j * 7 + 1, none⟩ (.int .i64 (k + (offG cT ts j : Int) + 1))).setCell ⟨b, j * 7 + 2, none⟩ (.int .i64 (k + (offG cT ts j : Int) + 1 + 1))).setCell ⟨b, j * 7 + 3, none⟩ (.int .i64 (k + (offG cT ts j : Int) + 1 + 1 + 1))) := ⟨_, rfl⟩
      have S1 : Hid (TRn w V B b ts g P (mkTi ts k) j [.int .i64 (k + (offG cT ts j : Int)), .int .i64 (k + (offG cT ts j : Int) + 1), .int .i64 (k + (offG cT ts j : Int) + 1 + 1), .int .i64 (k + (offG cT ts j : Int) + 1 + 1 + 1), .slice t0 (atT ts j).reads.length t1, .slice t2 (atT ts j).sets.length t3, .int .i64 (atT ts j).stamp] t0 t2 (atT ts j).reads (atT ts j).sets PR PS ∧ wr.heap.size ≤ V.heap.size) := by
        rw [hV]
        exact ⟨(((S0.put hlt H.out.2.2.1 HG.out.1 HG.out.2.1 0 (by simp) (by omega) _).put hlt H.out.2.2.1 HG.out.1 HG.out.2.1 1 (by simp) (by omega) _).put hlt H.out.2.2.1 HG.out.1 HG.out.2.1 2 (by simp) (by omega) _).put hlt H.out.2.2.1 HG.out.1 HG.out.2.1 3 (by simp) (by omega) _, by simp [World.setCell]⟩
      have HT : Hid (KT.S (atT ts j)) := hT
      have jn : (j : Int) < (ts.length : Int) := by omega
      have g0 : 0 ≤ k + (offG cT ts j : Int) := by omega
      have g1 : k + (offG cT ts j : Int) ≤ 100000000 := by omega
      clear hkp hrs hdn hat om hsub hbd hd hoff hle hT bl hb2 S0
      generalize hK : k + (offG cT ts j : Int) = kj at *
      have tr := HT.out.1
      have ts' := HT.out.2
      go_wp2_with fail
      rw [← hV]
      clear hV
      refine (tx.markNo V PR t0 t1 (atT ts j).reads _ (by omega) (by omega) HT.out.1 S1.out.1.r).mono ?_
      rintro e w1 ⟨rfl, k1, o1⟩
      have k1 := kp_of k1
      have R1 : Hid (TRn w w1 B b ts g P (mkTi ts k) j [.int .i64 kj, .int .i64 (kj + 1), .int .i64 (kj + 1 + 1), .int .i64 (kj + 1 + 1 + 1), .slice t0 (atT ts j).reads.length t1, .slice t2 (atT ts j).sets.length t3, .int .i64 (atT ts j).stamp] t0 t2 (tx.mkNotes (kj + 1 + 1 + 1 + 1) (atT ts j).reads.length) (atT ts j).sets PR PS ∧ wr.heap.size ≤ w1.heap.size) := ⟨S1.out.1.step hlt k1 HG.out.1 HG.out.2.2.2.1 o1 (S1.out.1.s.keep k1.size (fun q hq hp => k1.block q hq (fun e => HG.out.2.2.1 q e hp))), Nat.le_trans S1.out.2 k1.size⟩
      clear k1 o1 S1 d0 f0 d1 f1 d2 f2 d3 f3 e4
      have e5 : w1.cell? ⟨b, j * 7 + 5, none⟩ = some (.slice t2 (atT ts j).sets.length t3) := R1.out.1.at_ 5 _ rfl
      go_wp2_with fail
      refine (tx.markSe w1 PS t2 t3 (atT ts j).sets _ (by omega) (by omega) HT.out.2 R1.out.1.s).mono ?_
      rintro e w2 ⟨rfl, k2, o2⟩
      have k2 := kp_of k2
      have R2 : Hid (TRn w w2 B b ts g P (mkTi ts k) j [.int .i64 kj, .int .i64 (kj + 1), .int .i64 (kj + 1 + 1), .int .i64 (kj + 1 + 1 + 1), .slice t0 (atT ts j).reads.length t1, .slice t2 (atT ts j).sets.length t3, .int .i64 (atT ts j).stamp] t0 t2 (tx.mkNotes (kj + 1 + 1 + 1 + 1) (atT ts j).reads.length) (tx.mkSets (kj + 1 + 1 + 1 + 1 + 5 * ((atT ts j).reads.length : Int)) (atT ts j).sets.length) PR PS ∧ wr.heap.size ≤ w2.heap.size) := ⟨R1.out.1.step hlt k2 HG.out.2.1 HG.out.2.2.2.1 (R1.out.1.r.keep k2.size (fun q hq hp => k2.block q hq (fun e => HG.out.2.2.1 q hp e))) o2, Nat.le_trans R1.out.2 k2.size⟩
      clear k2 o2 R1 e5
      obtain ⟨z6, d6, f6⟩ : ∃ v, w2.cell? ⟨b, j * 7 + 6, none⟩ = some v ∧ w2.frozen? ⟨b, j * 7 + 6, none⟩ = false := R2.out.1.rest.rm (j * 7 + 6) (show _ < ts.length * 7 by omega)
      have R3 : Hid (∀ Y, Y = w2.setCell ⟨b, j * 7 + 6, none⟩ (.int .i64 (kj + 1 + 1 + 1 + 1 + 5 * ((atT ts j).reads.length : Int) + 5 * ((atT ts j).sets.length : Int))) → KTk.Rest Y B b ts.length ts g (j + 1) ∧ KeptP P w Y ∧ KTk.Done Y B b ts g (mkTi ts k) (j + 1)) := fun Y hY => by
        have R0 := R2.out.1.put hlt H.out.2.2.1 HG.out.1 HG.out.2.1 6 (by simp) (by omega) (.int .i64 (kj + 1 + 1 + 1 + 1 + 5 * ((atT ts j).reads.length : Int) + 5 * ((atT ts j).sets.length : Int)))
        rw [← hY] at R0
        obtain ⟨h1, h2, h3, h4, h5, h6, h7⟩ := HG.out
        have hsz : wr.heap.size ≤ Y.heap.size := by rw [hY]; simpa [World.setCell] using R2.out.2
        refine ⟨R0.rest, R0.kp, R0.done.step ⟨t0, t1, t2, t3⟩ ?_ ?_⟩
        · rw [HI.out]
          have := R0.at_
          simpa [KTk, mkTk, tx.mkNotes_len, tx.mkSets_len] using this
        · rw [HI.out]
          exact ⟨PR, PS, ⟨R0.r, R0.s, h3, fun q hq => ⟨h5 q hq, by have := (h7 q (h1 q hq)).2; omega⟩, fun q hq => ⟨h6 q hq, by have := (h7 q (h2 q hq)).2; omega⟩⟩, fun q hq => by rcases hq with hq | hq; exact h1 q hq; exact h2 q hq, fun q hq => ⟨(h7 q hq).1, by have := (h7 q hq).2; omega⟩⟩
      go_wp2
      exact ⟨⟨j + 1, by omega, by simp, by have := HO.out.1; rw [this]; congr 1; omega, (R3.out _ rfl).2.1, (R3.out _ rfl).1, (R3.out _ rfl).2.2⟩, by simp [intOf]; omega⟩
    · obtain rfl : j = ts.length := by omega
      have hd : decide ((ts.length : Int) < (ts.length : Int)) = false := by simp
      have KH : Hid (KeptP P w wr ∧ KTk.Part wr B b ts.length (mkTs ts k) g) := ⟨hkp, hdn.part hrs⟩
      clear hkp hrs hdn
      go_wp2
      go_ret
      exact ⟨rfl, KH.out.1, KH.out.2⟩
set_option maxRecDepth 100000 in
set_option maxHeartbeats 4000000 in
theorem heldTn (w : World) (a : Option Addr) (cap : Nat) (ts : List tx.T7) (k : Int) (hk : 0 ≤ k) (hk' : k + (offG cT ts ts.length : Int) ≤ 100000000) (hn : ts.length ≤ 1048576) (ht : ∀ t ∈ ts, KT.S t) (h : KTk.RdS w a (mkTs ts k)) :
    Calls Tryz.prog 49 #[.slice a ts.length cap, .int .i64 k] w fun e w' => e = .returned (.int .i64 (k + (offG cT ts ts.length : Int))) ∧ Below w.heap.size w w' := by
  have H : Hid ((∀ t ∈ ts, KT.S t) ∧ KTk.RdS w a (mkTs ts k)) := ⟨ht, h⟩
  clear ht h
  go_enter Tryz.func49, Tryz.ntmps49
  go_wp2
  go_loopw [1, 5] (fun v1 v5 wr => ∃ j : Nat, j ≤ ts.length ∧ v5 = .int .i64 j ∧ v1 = .int .i64 (k + (offG cT ts j : Int)) ∧ Below w.heap.size w wr) (fun _ v5 _ => ts.length - (intOf v5).toNat)
  case atStart => exact ⟨0, Nat.zero_le _, rfl, by rw [offG_zero]; simp, Below.refl _ _⟩
  case round =>
    obtain ⟨j, hj, rfl, rfl, hbl⟩ := hrel
    have hb2 := offG_le cT ts j
    by_cases hlt : j < ts.length
    · have hd := atT_of hlt
      have hrd := H.out.2.later hbl
      rcases hrd with h0 | ⟨b, off, rfl, hb, hrd⟩
      · have := mkTs_len ts k; rw [h0] at this; simp at this; omega
      obtain ⟨⟨t0, t1, t2, t3⟩, hat, how⟩ := hrd j _ (mkTs_at hlt)
      have e0 : wr.cell? ⟨b, off + j * 7, none⟩ = some (.int .i64 (k + (offG cT ts j : Int))) := hat 0 _ rfl
      have e1 : wr.cell? ⟨b, off + j * 7 + 1, none⟩ = some (.int .i64 (k + (offG cT ts j : Int) + 1)) := hat 1 _ rfl
      have e2 : wr.cell? ⟨b, off + j * 7 + 2, none⟩ = some (.int .i64 (k + (offG cT ts j : Int) + 1 + 1)) := hat 2 _ rfl
      have e3 : wr.cell? ⟨b, off + j * 7 + 3, none⟩ = some (.int .i64 (k + (offG cT ts j : Int) + 1 + 1 + 1)) := hat 3 _ rfl
      have e4 : wr.cell? ⟨b, off + j * 7 + 4, none⟩ = some (.slice t0 (mkTi ts k j).reads.length t1) := hat 4 _ rfl
      have e5 : wr.cell? ⟨b, off + j * 7 + 5, none⟩ = some (.slice t2 (mkTi ts k j).sets.length t3) := hat 5 _ rfl
      have e6 : wr.cell? ⟨b, off + j * 7 + 6, none⟩ = some (.int .i64 (k + (offG cT ts j : Int) + 1 + 1 + 1 + 1 + 5 * ((atT ts j).reads.length : Int) + 5 * ((atT ts j).sets.length : Int))) := hat 6 _ rfl
      have l1 : (mkTi ts k j).reads.length = (atT ts j).reads.length := tx.mkNotes_len _ _
      have l2 : (mkTi ts k j).sets.length = (atT ts j).sets.length := tx.mkSets_len _ _
      rw [l1] at e4
      rw [l2] at e5
      obtain ⟨sr, ss⟩ := how
      simp only at sr ss
      rw [l1] at sr
      rw [l2] at ss
      have hT := H.out.1 _ (List.mem_of_getElem? hd)
      have hoff : offG cT ts (j + 1) = offG cT ts j + cT (atT ts j) := offG_succ cT hd
      have hle := offG_le cT ts (j + 1)
      have HO : Hid (offG cT ts (j + 1) = offG cT ts j + (5 + (5 * (atT ts j).reads.length + 5 * (atT ts j).sets.length)) ∧ k + (offG cT ts (j + 1) : Int) ≤ 100000000) := ⟨hoff, by omega⟩
      have S : Hid (Below w.heap.size w wr ∧ tx.SlNo wr wr.heap.size t0 (atT ts j).reads.length (tx.mkNotes (k + (offG cT ts j : Int) + 1 + 1 + 1 + 1) (atT ts j).reads.length) ∧ tx.Sl wr wr.heap.size t2 (atT ts j).sets.length (tx.mkSets (k + (offG cT ts j : Int) + 1 + 1 + 1 + 1 + 5 * ((atT ts j).reads.length : Int)) (atT ts j).sets.length) ∧ b < wr.heap.size) := ⟨hbl, sr, ss, hb⟩
      have HT : Hid (KT.S (atT ts j)) := hT
      have jn : (j : Int) < (ts.length : Int) := by omega
      have g0 : 0 ≤ k + (offG cT ts j : Int) := by omega
      have g1 : k + (offG cT ts j : Int) ≤ 100000000 := by omega
      clear hbl hrd hat sr ss hd hoff hle hT hb l1 l2 hb2
      have tr := HT.out.1
      have ts' := HT.out.2
      generalize hK : k + (offG cT ts j : Int) = kj at *
      have x0 : (kj != kj) = false := by simp
      have x1 : (kj + 1 != kj + 1) = false := by simp
      have x2 : (kj + 1 + 1 != kj + 1 + 1) = false := by simp
      have x3 : (kj + 1 + 1 + 1 != kj + 1 + 1 + 1) = false := by simp
      have d1 : decide (kj + 1 + 1 + 1 + 1 + 5 * ((atT ts j).reads.length : Int) < 0) = false := by simp; omega
      have d2 : decide (kj + 1 + 1 + 1 + 1 + 5 * ((atT ts j).reads.length : Int) + 5 * ((atT ts j).sets.length : Int) < 0) = false := by simp; omega
      have x6 : (kj + 1 + 1 + 1 + 1 + 5 * ((atT ts j).reads.length : Int) + 5 * ((atT ts j).sets.length : Int) != kj + 1 + 1 + 1 + 1 + 5 * ((atT ts j).reads.length : Int) + 5 * ((atT ts j).sets.length : Int)) = false := by simp
      go_wp2_with fail
      refine (tx.heldNoteS_k wr t0 (atT ts j).reads.length t1 _ HT.out.1 (by omega) (by omega) S.out.2.1).mono ?_
      rintro e w1 ⟨rfl, rfl⟩
      go_wp2_with fail
      refine (tx.heldSetS_k w1 t2 (atT ts j).sets.length t3 _ HT.out.2 (by omega) (by omega) S.out.2.2.1).mono ?_
      rintro e w2 ⟨rfl, rfl⟩
      go_wp2
      exact ⟨⟨j + 1, by omega, by simp, by have := HO.out.1; rw [this]; congr 1; omega, S.out.1⟩, by simp [intOf]; omega⟩
    · obtain rfl : j = ts.length := by omega
      have hd : decide ((ts.length : Int) < (ts.length : Int)) = false := by simp
      have KH : Hid (Below w.heap.size w wr) := hbl
      clear hbl
      go_wp2
      go_ret
      exact ⟨rfl, KH.out⟩
theorem Kd.Part.upd {D V : Type} {K : Kd D V} {X Y : World} {B b n : Nat} {ys : List D} {g : Nat → Nat → Prop} (h : K.Part X B b n ys g) {i : Nat} (hi : i < ys.length) (v : V) (d : D) (hs : X.heap.size ≤ Y.heap.size) (hk : ∀ q, q ≠ b → Y.heap[q]? = X.heap[q]?) (hrm : Room Y b (n * K.n)) (hin : At Y b (i * K.n) (K.cells v d)) (hout : ∀ o, (o < i * K.n ∨ i * K.n + K.n ≤ o) → Y.cell? ⟨b, o, none⟩ = X.cell? ⟨b, o, none⟩) (ho : K.Ow X B v d (g i)) :
    K.Part Y B b n (ys.set i d) g := by
  refine ⟨hrm, fun j e hj => ?_, fun j q hj hq => ?_, fun j l q hj hl hjl h1 h2 => ?_⟩
  · by_cases hji : j = i
    · subst hji
      rw [List.getElem?_set_self hi] at hj
      obtain rfl := Option.some.inj hj
      exact ⟨v, hin, K.keep ho hs (fun q hq => hk q (h.ne j q hi hq))⟩
    · rw [List.getElem?_set_ne (fun e => hji e.symm)] at hj
      obtain ⟨v', h1, h2⟩ := h.at_ j e hj
      have hjl := (List.getElem?_eq_some_iff.1 hj).1
      refine ⟨v', fun t u hu => ?_, K.keep h2 hs (fun q hq => hk q (h.ne j q hjl hq))⟩
      have ht : t < K.n := by have := (List.getElem?_eq_some_iff.1 hu).1; rwa [K.len] at this
      refine (hout _ ?_).trans (h1 t u hu)
      rcases Nat.lt_or_gt_of_ne hji with hlt | hgt
      · have := Nat.mul_le_mul_right K.n (Nat.succ_le_of_lt hlt); rw [Nat.succ_mul] at this; left; omega
      · have := Nat.mul_le_mul_right K.n (Nat.succ_le_of_lt hgt); rw [Nat.succ_mul] at this; right; omega
  · rw [List.length_set] at hj; exact h.ne j q hj hq
  · rw [List.length_set] at hj hl; exact h.ap j l q hj hl hjl h1 h2
theorem clLock {Y : World} {base p : Nat} {b1 : Option Addr} {d1 : Nat} {b2 : Option Addr} {d2 : Nat} {b3 : Option Addr} {d3 : Nat} {k : C6} {ps : List ((Nat × Nat) × List Int)} {gp : Nat → Nat → Prop} {ms : List (MV × M4)} {gm : Nat → Nat → Prop} {ts : List (tx.TV × tx.T7)} {gt : Nat → Nat → Prop}
    (hr : CL3 base p Y (.slice b1 k.places.length d1) (.slice b2 k.machines.length d2) (.slice b3 k.txs.length d3) ps gp ms gm ts gt) (e1 : ps.map (·.2) = k.places) (e2 : ms.map (·.2) = k.machines) (e3 : ts.map (·.2) = k.txs) {i : Nat} (hi : i < k.txs.length) :
    ∃ b, b3 = some ⟨b, 0, none⟩ ∧ base ≤ b ∧ b < Y.heap.size ∧ b ≠ p ∧ Room Y b (k.txs.length * 7) ∧ ∃ P, KCl.Ow ((Y.setCell ⟨b, i * 7 + 2, none⟩ (.int .i64 2)).setCell ⟨b, i * 7 + 3, none⟩ (.int .i64 0)) base b1 d1 b2 d2 b3 d3 (setTx k i (lockT (atT k.txs i))) P := by
  have ho1 := placesOwn hr.P e1
  have ho2 := hr.M.own e2
  have ho3 := hr.T.own e3
  obtain ⟨h3, hb3⟩ := ho3
  rcases h3 with h3 | ⟨b, g, rfl, hp, hpt, hg⟩
  · rw [h3] at hi; simp at hi
  have hbb := hb3 b hp
  obtain ⟨⟨t0, t1, t2, t3⟩, hel, how⟩ := hpt.at_ i _ (atT_of hi)
  have far : ∀ q, q ≠ b → ((Y.setCell ⟨b, i * 7 + 2, none⟩ (.int .i64 2)).setCell ⟨b, i * 7 + 3, none⟩ (.int .i64 0)).heap[q]? = Y.heap[q]? := fun q hq => (Below.heap_setCell _ _ _ _ hq).trans (Below.heap_setCell _ _ _ _ hq)
  have hsz : ((Y.setCell ⟨b, i * 7 + 2, none⟩ (.int .i64 2)).setCell ⟨b, i * 7 + 3, none⟩ (.int .i64 0)).heap.size = Y.heap.size := by simp [World.setCell]
  have hrm : Room ((Y.setCell ⟨b, i * 7 + 2, none⟩ (.int .i64 2)).setCell ⟨b, i * 7 + 3, none⟩ (.int .i64 0)) b (k.txs.length * 7) := (hpt.rm.set _).set _
  have hel' : At Y b (i * 7) (KTk.cells ⟨t0, t1, t2, t3⟩ (atT k.txs i)) := hel
  have hin : At ((Y.setCell ⟨b, i * 7 + 2, none⟩ (.int .i64 2)).setCell ⟨b, i * 7 + 3, none⟩ (.int .i64 0)) b (i * 7) (KTk.cells ⟨t0, t1, t2, t3⟩ (lockT (atT k.txs i))) := At.put (At.put hel' (i := 2) (by simp [KTk]) (.int .i64 2)) (i := 3) (by simp [KTk]) (.int .i64 0)
  have hput := Kd.Part.upd (K := KTk) hpt hi ⟨t0, t1, t2, t3⟩ (lockT (atT k.txs i)) (Nat.le_of_eq hsz.symm) far hrm hin (fun o ho => by
    have ho' : o < i * 7 ∨ i * 7 + 7 ≤ o := ho
    exact (cell_set_other (by omega)).trans (cell_set_other (by omega))) (KT.Ow.head how _ _ _ _ _)
  have hbT : Kd.blk (.slice (some ⟨b, 0, none⟩) k.txs.length d3) ts gt b := .inl rfl
  refine ⟨b, rfl, hbb.1, hbb.2, hr.tp b hbT, hpt.rm, fun q => Kd.blk (.slice b1 k.places.length d1) ps gp q ∨ Kd.blk (.slice b2 k.machines.length d2) ms gm q ∨ Kd.blk (.slice (some ⟨b, 0, none⟩) k.txs.length d3) ts gt q, ⟨_, _, _, ho1.keep (Nat.le_of_eq hsz.symm) (fun q hq => far q (fun e => by subst e; exact hr.pt q hq hbT)), ho2.keep (Nat.le_of_eq hsz.symm) (fun q hq => far q (fun e => by subst e; exact hr.mt q hq hbT)), ⟨.inr ⟨b, g, rfl, hp, ?_, fun j q hj hq => hg j q (by simpa [setTx] using hj) hq⟩, fun q hq => by rw [hsz]; exact hb3 q hq⟩, fun _ hq => .inl hq, fun _ hq => .inr (.inl hq), fun _ hq => .inr (.inr hq), hr.pm, hr.pt, hr.mt⟩, fun q hq => ?_⟩
  · have : (k.txs.set i (lockT (atT k.txs i))).length = k.txs.length := by simp
    show KTk.Part _ base b (k.txs.set i (lockT (atT k.txs i))).length (k.txs.set i (lockT (atT k.txs i))) _
    rw [this]; exact hput
  · rw [hsz]
    rcases hq with hq | hq | hq
    · exact hr.P.blocks hq
    · exact hr.M.blocks hq
    · exact hb3 q hq
theorem runC_one (k : C6) (y : Int) : (clusterB k = true ∨ runC k y = 1) ∧ (clusterB k = true → runC k y ≠ 1) := by
  cases hk : clusterB k with
  | false => exact ⟨.inr (by simp [runC, codeB, hk]), fun h => by cases h⟩
  | true =>
    refine ⟨.inl rfl, fun _ => ?_⟩
    simp only [runC, codeB, hk, if_true]
    split <;> split <;> (try split) <;> (try split) <;> (try decide) <;> (try omega)
set_option maxRecDepth 100000 in
set_option maxHeartbeats 2000000 in
theorem specCommit_any (w : World) (a1 : Option Addr) (c1 : Nat) (a2 : Option Addr) (c2 : Nat) (a3 : Option Addr) (c3 : Nat) (k : C6) (y : Int) (hl : KCl.L k) (h : KCl.Rd w a1 c1 a2 c2 a3 c3 k) :
    Calls Tryz.prog 24 #[.agg #[.int .i64 k.config, .int .i64 k.clock, .slice a1 k.places.length c1, .slice a2 k.machines.length c2, .slice a3 k.txs.length c3, .bool k.lost], .int .i64 y] w (FcAns w (comK k y) (runC k y)) := by
  obtain ⟨W0, hW0⟩ : ∃ Y, Y = (w.alloc (.cells #[.int .i64 k.config, .int .i64 k.clock, .slice a1 k.places.length c1, .slice a2 k.machines.length c2, .slice a3 k.txs.length c3, .bool k.lost] 32)).alloc (.cells #[.int .i64 0, .int .i64 0, .slice none 0 0, .slice none 0 0, .slice none 0 0, .bool false] 32) := ⟨_, rfl⟩
  have b0 : Below w.heap.size w W0 := by rw [hW0]; exact ((Below.refl _ _).alloc (Nat.le_refl _) _).alloc (by simp) _
  have s0 : W0.heap.size = w.heap.size + 2 := by rw [hW0]; simp
  have x0 : Bx W0 w.heap.size [.int .i64 k.config, .int .i64 k.clock, .slice a1 k.places.length c1, .slice a2 k.machines.length c2, .slice a3 k.txs.length c3, .bool k.lost] := by
    have := (Bx.made w [.int .i64 k.config, .int .i64 k.clock, .slice a1 k.places.length c1, .slice a2 k.machines.length c2, .slice a3 k.txs.length c3, .bool k.lost] 32).later ((Below.refl _ _).alloc (Nat.le_refl _) (.cells #[.int .i64 0, .int .i64 0, .slice none 0 0, .slice none 0 0, .slice none 0 0, .bool false] 32))
    rw [hW0]; exact this
  have x1 : Bx W0 (w.heap.size + 1) [.int .i64 0, .int .i64 0, .slice none 0 0, .slice none 0 0, .slice none 0 0, .bool false] := by
    have h := Bx.made (w.alloc (.cells #[.int .i64 k.config, .int .i64 k.clock, .slice a1 k.places.length c1, .slice a2 k.machines.length c2, .slice a3 k.txs.length c3, .bool k.lost] 32)) [.int .i64 0, .int .i64 0, .slice none 0 0, .slice none 0 0, .slice none 0 0, .bool false] 32
    rw [show (w.alloc (.cells #[.int .i64 k.config, .int .i64 k.clock, .slice a1 k.places.length c1, .slice a2 k.machines.length c2, .slice a3 k.txs.length c3, .bool k.lost] 32)).heap.size = w.heap.size + 1 by simp] at h
    rw [hW0]; exact h
  have hc := l9Runs_any W0 a1 c1 a2 c2 a3 c3 k y hl (h.later b0)
  have p0 := x0.1 0 _ rfl
  have p1 := x0.1 1 _ rfl
  have p2 := x0.1 2 _ rfl
  have p3 := x0.1 3 _ rfl
  have p4 := x0.1 4 _ rfl
  have p5 := x0.1 5 _ rfl
  have H : Hid (Below w.heap.size w W0 ∧ W0.heap.size = w.heap.size + 2 ∧ Bx W0 w.heap.size [.int .i64 k.config, .int .i64 k.clock, .slice a1 k.places.length c1, .slice a2 k.machines.length c2, .slice a3 k.txs.length c3, .bool k.lost] ∧ Bx W0 (w.heap.size + 1) [.int .i64 0, .int .i64 0, .slice none 0 0, .slice none 0 0, .slice none 0 0, .bool false] ∧ KCl.Rd W0 a1 c1 a2 c2 a3 c3 k) := ⟨b0, s0, x0, x1, h.later b0⟩
  rw [hW0] at p0 p1 p2 p3 p4 p5
  clear b0 s0 x0 x1 h hl
  go_enter Tryz.func24, Tryz.ntmps24
  go_wp2_with fail
  rw [← hW0]
  clear hW0 p0 p1 p2 p3 p4 p5
  refine hc.mono ?_
  clear hc
  rintro e w1 ⟨rfl, b1⟩
  obtain ⟨h1, h2, h3, h4, h5⟩ := H.out
  have B1 : Hid (Below w.heap.size w w1 ∧ w.heap.size + 2 ≤ w1.heap.size ∧ Bx w1 w.heap.size [.int .i64 k.config, .int .i64 k.clock, .slice a1 k.places.length c1, .slice a2 k.machines.length c2, .slice a3 k.txs.length c3, .bool k.lost] ∧ Bx w1 (w.heap.size + 1) [.int .i64 0, .int .i64 0, .slice none 0 0, .slice none 0 0, .slice none 0 0, .bool false] ∧ KCl.Rd w1 a1 c1 a2 c2 a3 c3 k) := ⟨bstep h1 b1, by have := b1.size; omega, h3.later b1, h4.later b1, h5.later b1⟩
  have q0 := B1.out.2.2.1.1 0 _ rfl
  have q1 := B1.out.2.2.1.1 1 _ rfl
  have q2 := B1.out.2.2.1.1 2 _ rfl
  have q3 := B1.out.2.2.1.1 3 _ rfl
  have q4 := B1.out.2.2.1.1 4 _ rfl
  have q5 := B1.out.2.2.1.1 5 _ rfl
  clear b1 h1 h2 h3 h4 h5 H
  by_cases hz : runC k y = 0
  · obtain ⟨hk, hi, -, -⟩ := runC_zero hz
    have hl8 := l8Copy_any w1 a1 c1 a2 c2 a3 c3 k hk B1.out.2.2.2.2
    have hcom : comK k y = setTx k (atId k.txs y) (lockT (atT k.txs (atId k.txs y))) := by rw [comK, if_pos hz]; rfl
    have HZ : Hid (runC k y = 0 ∧ comK k y = setTx k (atId k.txs y) (lockT (atT k.txs (atId k.txs y)))) := ⟨hz, hcom⟩
    rw [hz, runI_yes hz]
    clear hz hcom hk
    generalize atId k.txs y = i at *
    go_wp2_with fail
    refine hl8.mono ?_
    clear hl8 q0 q1 q2 q3 q4 q5
    rintro e w2 ⟨b1, d1, b2, d2, b3, d3, ps, gp, ms, gm, ts, gt, rfl, hr, e1, e2, e3, bl⟩
    obtain ⟨W3, hW3⟩ : ∃ Y, Y = w2.alloc (.cells #[.int .i64 k.config, .int .i64 k.clock, .slice b1 k.places.length d1, .slice b2 k.machines.length d2, .slice b3 k.txs.length d3, .bool k.lost] 32) := ⟨_, rfl⟩
    have b3' : Below w2.heap.size w2 W3 := by rw [hW3]; exact (Below.refl _ _).alloc (Nat.le_refl _) _
    have x3 : Bx W3 w2.heap.size [.int .i64 k.config, .int .i64 k.clock, .slice b1 k.places.length d1, .slice b2 k.machines.length d2, .slice b3 k.txs.length d3, .bool k.lost] := by rw [hW3]; exact Bx.made w2 [.int .i64 k.config, .int .i64 k.clock, .slice b1 k.places.length d1, .slice b2 k.machines.length d2, .slice b3 k.txs.length d3, .bool k.lost] _
    obtain ⟨b, hb3, hb1, hb2, hbp, hroom, PP, hOW⟩ := clLock (hr.later b3') e1 e2 e3 hi
    subst hb3
    have hbw : b < w2.heap.size := (hr.T.blocks (.inl (by rfl : (Value.slice (some ⟨b, 0, none⟩) k.txs.length d3).ownBlock = some b))).2
    obtain ⟨v2, g2, f2⟩ := hroom (i * 7 + 2) (by omega)
    obtain ⟨v3, g3, f3⟩ := hroom (i * 7 + 3) (by omega)
    have o4 := x3.1 4 _ rfl
    have o4' : (W3.setCell ⟨b, i * 7 + 2, none⟩ (.int .i64 2)).cell? ⟨w2.heap.size, 4, none⟩ = some (.slice (some ⟨b, 0, none⟩) k.txs.length d3) := (x3.far (by omega) _).1 4 _ rfl
    have jn : (i : Int) < (k.txs.length : Int) := by omega
    obtain ⟨Y, hY⟩ : ∃ Y, Y = (W3.setCell ⟨b, i * 7 + 2, none⟩ (.int .i64 2)).setCell ⟨b, i * 7 + 3, none⟩ (.int .i64 0) := ⟨_, rfl⟩
    obtain ⟨h1, h2, h3, h4, h5⟩ := B1.out
    have xo : Bx Y w2.heap.size [.int .i64 k.config, .int .i64 k.clock, .slice b1 k.places.length d1, .slice b2 k.machines.length d2, .slice (some ⟨b, 0, none⟩) k.txs.length d3, .bool k.lost] := by rw [hY]; exact (x3.far (by omega) _).far (by omega) _
    have xr : Bx Y (w.heap.size + 1) [.int .i64 0, .int .i64 0, .slice none 0 0, .slice none 0 0, .slice none 0 0, .bool false] := by rw [hY]; exact (((h4.later bl).later b3').far (by omega) _).far (by omega) _
    have bY : Below w.heap.size w Y := by rw [hY]; exact ((bstep (bstep h1 bl) b3').setCell (p := ⟨b, i * 7 + 2, none⟩) (by show w.heap.size ≤ b; omega) _).setCell (p := ⟨b, i * 7 + 3, none⟩) (by show w.heap.size ≤ b; omega) _
    rw [← hY] at hOW
    have KE : Hid (KCl.Ow Y (w1.heap.size + 3) b1 d1 b2 d2 (some ⟨b, 0, none⟩) d3 (setTx k i (lockT (atT k.txs i))) PP ∧ Below w.heap.size w Y ∧ w.heap.size + 2 ≤ w1.heap.size) := ⟨hOW, bY, h2⟩
    have r0 := xr.1 0 _ rfl
    have r1 := xr.1 1 _ rfl
    have r2 := xr.1 2 _ rfl
    have r3 := xr.1 3 _ rfl
    have r4 := xr.1 4 _ rfl
    have r5 := xr.1 5 _ rfl
    have z0 := xr.2.1 0
    have z1 := xr.2.1 1
    have z2 := xr.2.1 2
    have z3 := xr.2.1 3
    have z4 := xr.2.1 4
    have z5 := xr.2.1 5
    have y0 := xo.1 0 _ rfl
    have y1 := xo.1 1 _ rfl
    have y2 := xo.1 2 _ rfl
    have y3 := xo.1 3 _ rfl
    have y4 := xo.1 4 _ rfl
    have y5 := xo.1 5 _ rfl
    rw [hY] at r0 r1 r2 r3 r4 r5 z0 z1 z2 z3 z4 z5 y0 y1 y2 y3 y4 y5
    rw [hW3] at r0 r1 r2 r3 r4 r5 z0 z1 z2 z3 z4 z5 y0 y1 y2 y3 y4 y5 o4 o4' g2 g3 f2 f3
    rw [hW3] at hY
    clear hr e1 e2 e3 bl b3' x3 hb1 hb2 hbp hroom hOW hbw h1 h2 h3 h4 h5 B1 xo xr bY hW3
    go_wp2
    rw [← hY]
    rw [← hY] at r0 r1 r2 r3 r4 r5
    clear hY
    refine bodyPost_ret (v := .tuple #[.agg #[.int .i64 k.config, .int .i64 k.clock, .slice b1 k.places.length d1, .slice b2 k.machines.length d2, .slice (some ⟨b, 0, none⟩) k.txs.length d3, .bool k.lost], .int .i64 0]) (by simp [results, Tryz.results24, go_sem, r0, r1, r2, r3, r4, r5]) rfl ?_
    rw [HZ.out.1, HZ.out.2]
    refine ⟨b1, d1, b2, d2, some ⟨b, 0, none⟩, d3, PP, by simp [setTx], ?_, ?_⟩
    · exact (KE.out.1.low (show w.heap.size ≤ _ by have := KE.out.2.2; omega)).keep (w' := putB Y (w.heap.size + 1) 0 [.int .i64 k.config, .int .i64 k.clock, .slice b1 k.places.length d1, .slice b2 k.machines.length d2, .slice (some ⟨b, 0, none⟩) k.txs.length d3, .bool k.lost]) (by rw [putB_size]; exact Nat.le_refl _) (fun q hq => putB_block (fun e => by have := (KE.out.1.of hq).1; have := KE.out.2.2; omega) _ _ _)
    · exact putB_below (w := w) (by omega) [.int .i64 k.config, .int .i64 k.clock, .slice b1 k.places.length d1, .slice b2 k.machines.length d2, .slice (some ⟨b, 0, none⟩) k.txs.length d3, .bool k.lost] Y 0 KE.out.2.1
  · obtain ⟨hn1, hn2⟩ := runC_one k y
    have hno := l9No_any w1 a1 c1 a2 c2 a3 c3 k (runC k y) B1.out.2.2.2.2 hn1 hn2
    have hcom : comK k y = leftC k := by rw [comK, if_neg hz]
    have HZ := hidOf hcom
    have hne : (runC k y != 0) = true := by simpa using hz
    rw [runI_no hz]
    clear hn1 hn2 hcom hz
    generalize runC k y = n at *
    generalize leftC k = N at *
    go_wp2_with fail
    refine hno.mono ?_
    clear hno q0 q1 q2 q3 q4 q5
    rintro e w2 ⟨e1, g1, e2, g2, e3, g3, PP, rfl, how, b2⟩
    have y0 := B1.out.2.2.2.1.later b2
    have r0 := y0.1 0 _ rfl
    have r1 := y0.1 1 _ rfl
    have r2 := y0.1 2 _ rfl
    have r3 := y0.1 3 _ rfl
    have r4 := y0.1 4 _ rfl
    have r5 := y0.1 5 _ rfl
    have f0 := y0.2.1 0
    have f1 := y0.2.1 1
    have f2 := y0.2.1 2
    have f3 := y0.2.1 3
    have f4 := y0.2.1 4
    have f5 := y0.2.1 5
    have KE : Hid (KCl.Ow w2 w1.heap.size e1 g1 e2 g2 e3 g3 N PP ∧ Below w.heap.size w w2 ∧ w.heap.size + 2 ≤ w1.heap.size) := ⟨how, bstep B1.out.1 b2, B1.out.2.1⟩
    clear y0 how b2 B1
    go_wp2
    refine bodyPost_ret (v := .tuple #[.agg #[.int .i64 N.config, .int .i64 N.clock, .slice e1 N.places.length g1, .slice e2 N.machines.length g2, .slice e3 N.txs.length g3, .bool N.lost], .int .i64 n]) (by simp [results, Tryz.results24, go_sem, r0, r1, r2, r3, r4, r5]) rfl ?_
    rw [HZ.out]
    refine ⟨e1, g1, e2, g2, e3, g3, PP, rfl, ?_, ?_⟩
    · exact (KE.out.1.low (show w.heap.size ≤ _ by have := KE.out.2.2; omega)).keep (w' := putB w2 (w.heap.size + 1) 0 [.int .i64 N.config, .int .i64 N.clock, .slice e1 N.places.length g1, .slice e2 N.machines.length g2, .slice e3 N.txs.length g3, .bool N.lost]) (by rw [putB_size]; exact Nat.le_refl _) (fun q hq => putB_block (fun e => by have := (KE.out.1.of hq).1; have := KE.out.2.2; omega) _ _ _)
    · exact putB_below (w := w) (by omega) [.int .i64 N.config, .int .i64 N.clock, .slice e1 N.places.length g1, .slice e2 N.machines.length g2, .slice e3 N.txs.length g3, .bool N.lost] w2 0 KE.out.2.1
end Go.Proofs.YtnhjgomfkfehgaaGreatDoor
namespace Go.Proofs.YtnhjgomfkfehgaaGreatDoor
open Go.ChangeShapes Go.WideShapes Go.ChangeAt Go.RowKit
def S5.cells (s : S5) : List Value := [.int .i64 s.region, .int .i64 s.slot, .int .i64 s.value, .bool s.used, .int .i64 s.version]
def S5.wf (s : S5) : Prop := (Lit.int .i64 s.region).wf = true ∧ (Lit.int .i64 s.slot).wf = true ∧ (Lit.int .i64 s.value).wf = true ∧ (Lit.int .i64 s.version).wf = true
theorem list5 {α : Type} {cs : List α} (h : cs.length = 5) : ∃ c0 c1 c2 c3 c4, cs = [c0, c1, c2, c3, c4] := by
  match cs, h with
  | [c0, c1, c2, c3, c4], _ => exact ⟨c0, c1, c2, c3, c4, rfl⟩
theorem cells_set : Tryz.prog.cellsOf 234 = 5 := by kernel_rfl
theorem cells_int : Tryz.prog.cellsOf 2 = 1 := by kernel_rfl
theorem cells_bool : Tryz.prog.cellsOf 4 = 1 := by kernel_rfl
theorem open_set {H : Type} {enc : TypeId × Value → H} {w : World} {base : Nat} {spare : Nat → Bool} {held : Bool} {fuel : Nat} {cs : List Value} {x : DataW H × List MemPlace}
    (h : DataW.trod enc Tryz.prog w base spare held fuel 234 cs = some x) : ∃ s : S5, cs = s.cells ∧ s.wf := by
  obtain ⟨xs, n, _, rfl, hl, hlen, hf⟩ := DataW.trod_struct Tryz.underlying234 h
  rw [cells_set] at hl
  obtain ⟨c0, c1, c2, c3, c4, rfl⟩ := list5 hl
  obtain ⟨y0, y1, y2, y3, y4, rfl⟩ := list5 hlen
  have h0 := hf 0 _ rfl
  have h1 := hf 1 _ rfl
  have h2 := hf 2 _ rfl
  have h3 := hf 3 _ rfl
  have h4 := hf 4 _ rfl
  simp [cells_int, cells_bool] at h0 h1 h2 h3 h4
  obtain ⟨z0, e0, _, f0⟩ := DataW.trod_int Tryz.underlying2 h0
  obtain ⟨z1, e1, _, f1⟩ := DataW.trod_int Tryz.underlying2 h1
  obtain ⟨z2, e2, _, f2⟩ := DataW.trod_int Tryz.underlying2 h2
  obtain ⟨z3, e3, _⟩ := DataW.trod_bool Tryz.underlying4 h3
  obtain ⟨z4, e4, _, f4⟩ := DataW.trod_int Tryz.underlying2 h4
  simp at e0 e1 e2 e3 e4
  subst e0 e1 e2 e3 e4
  exact ⟨⟨z0, z1, z2, z3, z4⟩, rfl, f0, f1, f2, f4⟩
end Go.Proofs.YtnhjgomfkfehgaaGreatDoor
namespace Go.Proofs.YtnhjgomfkfehgaaGreatDoor
open Go.ChangeShapes Go.WideShapes Go.ChangeAt Go.RowKit Go.Deep
theorem list2 {α : Type} {cs : List α} (h : cs.length = 2) : ∃ c0 c1, cs = [c0, c1] := by
  match cs, h with
  | [c0, c1], _ => exact ⟨c0, c1, rfl⟩
theorem cells_cell : Tryz.prog.cellsOf 314 = 2 := by kernel_rfl
theorem cells_num : Tryz.prog.cellsOf 2 = 1 := by kernel_rfl
theorem open_cell {H : Type} {enc : TypeId × Value → H} {w : World} {base : Nat} {spare : Nat → Bool} {held : Bool} {fuel : Nat} {cs : List Value} {x : DataW H × List MemPlace}
    (h : DataW.trod enc Tryz.prog w base spare held fuel 314 cs = some x) : ∃ s : C2, cs = s.cells := by
  obtain ⟨xs, n, _, rfl, hl, hlen, hf⟩ := DataW.trod_struct Tryz.underlying314 h
  rw [cells_cell] at hl
  obtain ⟨c0, c1, rfl⟩ := list2 hl
  obtain ⟨y0, y1, rfl⟩ := list2 hlen
  have h0 := hf 0 _ rfl
  have h1 := hf 1 _ rfl
  simp [cells_num] at h0 h1
  obtain ⟨z0, e0, _, _⟩ := DataW.trod_int Tryz.underlying2 h0
  obtain ⟨z1, e1, _, _⟩ := DataW.trod_int Tryz.underlying2 h1
  simp at e0 e1
  subst e0 e1
  exact ⟨⟨z0, z1⟩, rfl⟩
theorem some_of {α : Type} {p : Nat → α → Prop} (n : Nat) (h : ∀ i, i < n → ∃ x, p i x) : ∃ xs : List α, xs.length = n ∧ ∀ i x, xs[i]? = some x → p i x := by
  induction n with
  | zero => exact ⟨[], rfl, fun i x e => by simp at e⟩
  | succ n ih =>
    obtain ⟨xs, hl, hx⟩ := ih fun i hi => h i (by omega)
    obtain ⟨y, hy⟩ := h n (by omega)
    refine ⟨xs ++ [y], by simp [hl], fun i x e => ?_⟩
    by_cases hi : i < xs.length
    · rw [List.getElem?_append_left hi] at e
      exact hx i x e
    · rw [List.getElem?_append_right (by omega)] at e
      have : i = xs.length := by
        by_cases h2 : i - xs.length = 0
        · omega
        · rw [List.getElem?_eq_none (by simp; omega)] at e; cases e
      subst this
      simp at e
      subst e
      rw [hl]; exact hy
end Go.Proofs.YtnhjgomfkfehgaaGreatDoor
namespace Go.Proofs.YtnhjgomfkfehgaaGreatDoor.om
open Go.ChangeShapes Go.WideShapes Go.ChangeAt Go.RowKit Go.Deep
theorem cells_i : Tryz.prog.cellsOf 2 = 1 := by kernel_rfl
theorem cells_b : Tryz.prog.cellsOf 4 = 1 := by kernel_rfl
theorem cells_ss : Tryz.prog.cellsOf 122 = 1 := by kernel_rfl
theorem cells_cs : Tryz.prog.cellsOf 222 = 1 := by kernel_rfl
theorem cells_rs : Tryz.prog.cellsOf 117 = 1 := by kernel_rfl
theorem cells_ks : Tryz.prog.cellsOf 116 = 1 := by kernel_rfl
theorem cells_is : Tryz.prog.cellsOf 60 = 1 := by kernel_rfl
theorem cells_r : Tryz.prog.cellsOf 227 = 4 := by kernel_rfl
theorem cells_k : Tryz.prog.cellsOf 224 = 2 := by kernel_rfl
theorem cells_m : Tryz.prog.cellsOf 119 = 4 := by kernel_rfl
theorem list4 {α : Type} {cs : List α} (h : cs.length = 4) : ∃ c0 c1 c2 c3, cs = [c0, c1, c2, c3] := by
  match cs, h with
  | [c0, c1, c2, c3], _ => exact ⟨c0, c1, c2, c3, rfl⟩
theorem open_sets {H : Type} {enc : TypeId × Value → H} {w : World} {spare : Nat → Bool} {held : Bool} {fuel : Nat} {cs : List Value} {x : DataW H × List MemPlace}
    (h : DataW.trod enc Tryz.prog w 0 spare held fuel 122 cs = some x) : ∃ a n cap xs, cs = [.slice a n cap] ∧ n ≤ maxLen ∧ n ≤ cap ∧ Sl w w.heap.size a n xs := by
  rcases open_slice Tryz.underlying122 h with ⟨rfl, _⟩ | ⟨a, len, cap, m, n, D, Pl, rfl, _, hl, hm, hmm, _, hx⟩
  · exact ⟨none, 0, 0, [], rfl, Nat.zero_le _, Nat.le_refl _, ⟨rfl, .inl rfl⟩⟩
  · have hlm : len ≤ m := by rw [hmm]; split <;> omega
    have key : ∀ i, i < len → ∃ s : S5, ∀ k, k < 5 → w.cell? ((a.add (i * 5)).add k) = s.cells[k]? := fun i hi => by
      obtain ⟨cs', h1, h2⟩ := hx i (by omega)
      rw [cells_set] at h1
      obtain ⟨s, rfl, _⟩ := open_set h2
      exact ⟨s, (World.cells?_some h1).2.2⟩
    obtain ⟨xs, hlen, hxs⟩ := some_of len key
    refine ⟨some a, len, cap, xs, rfl, by omega, by omega, ⟨hlen, ?_⟩⟩
    · by_cases h0 : len = 0
      · exact .inl h0
      · right
        obtain ⟨b, off, spot⟩ := a
        obtain ⟨s, hs⟩ := key 0 (by omega)
        have c0 : w.cell? ⟨b, off, spot⟩ = some (.int .i64 s.region) := by simpa [Addr.add, S5.cells] using hs 0 (by omega)
        have hspot : spot = none := by simpa using World.cell?_spot c0
        subst hspot
        refine ⟨b, off, rfl, block_lt_of_cell c0, fun i s e => ?_⟩
        have hk := hxs i s e
        simp only [add_plain] at hk
        exact ⟨by simpa [S5.cells] using hk 0 (by omega), by simpa [S5.cells] using hk 1 (by omega), by simpa [S5.cells] using hk 2 (by omega), by simpa [S5.cells] using hk 3 (by omega), by simpa [S5.cells] using hk 4 (by omega)⟩
theorem open_cells {H : Type} {enc : TypeId × Value → H} {w : World} {spare : Nat → Bool} {held : Bool} {fuel : Nat} {cs : List Value} {x : DataW H × List MemPlace}
    (h : DataW.trod enc Tryz.prog w 0 spare held fuel 222 cs = some x) : ∃ a n cap xs, cs = [.slice a n cap] ∧ n ≤ maxLen ∧ n ≤ cap ∧ SlC w w.heap.size a n xs := by
  rcases open_slice Tryz.underlying222 h with ⟨rfl, _⟩ | ⟨a, len, cap, m, n, D, Pl, rfl, _, hl, hm, hmm, _, hx⟩
  · exact ⟨none, 0, 0, [], rfl, Nat.zero_le _, Nat.le_refl _, ⟨rfl, .inl rfl⟩⟩
  · have hlm : len ≤ m := by rw [hmm]; split <;> omega
    have key : ∀ i, i < len → ∃ s : C2, ∀ k, k < 2 → w.cell? ((a.add (i * 2)).add k) = s.cells[k]? := fun i hi => by
      obtain ⟨cs', h1, h2⟩ := hx i (by omega)
      rw [cells_cell] at h1
      obtain ⟨s, rfl⟩ := open_cell h2
      exact ⟨s, (World.cells?_some h1).2.2⟩
    obtain ⟨xs, hlen, hxs⟩ := some_of len key
    refine ⟨some a, len, cap, xs, rfl, by omega, by omega, ⟨hlen, ?_⟩⟩
    · by_cases h0 : len = 0
      · exact .inl h0
      · right
        obtain ⟨b, off, spot⟩ := a
        obtain ⟨s, hs⟩ := key 0 (by omega)
        have c0 : w.cell? ⟨b, off, spot⟩ = some (.int .i64 s.head) := by simpa [Addr.add, C2.cells] using hs 0 (by omega)
        have hspot : spot = none := by simpa using World.cell?_spot c0
        subst hspot
        refine ⟨b, off, rfl, block_lt_of_cell c0, fun i s e => ?_⟩
        have hk := hxs i s e
        simp only [add_plain] at hk
        exact ⟨by simpa [C2.cells] using hk 0 (by omega), by simpa [C2.cells] using hk 1 (by omega)⟩
theorem open_nums {H : Type} {enc : TypeId × Value → H} {w : World} {spare : Nat → Bool} {held : Bool} {fuel : Nat} {cs : List Value} {x : DataW H × List MemPlace}
    (h : DataW.trod enc Tryz.prog w 0 spare held fuel 60 cs = some x) : ∃ a n cap xs, cs = [.slice a n cap] ∧ n ≤ maxLen ∧ n ≤ cap ∧ SlN w w.heap.size a n xs := by
  rcases open_slice Tryz.underlying60 h with ⟨rfl, _⟩ | ⟨a, len, cap, m, n, D, Pl, rfl, _, hl, hm, hmm, _, hx⟩
  · exact ⟨none, 0, 0, [], rfl, Nat.zero_le _, Nat.le_refl _, ⟨rfl, .inl rfl⟩⟩
  · have hlm : len ≤ m := by rw [hmm]; split <;> omega
    have key : ∀ i, i < len → ∃ s : Int, w.cell? (a.add (i * 1)) = some (.int .i64 s) := fun i hi => by
      obtain ⟨cs', h1, h2⟩ := hx i (by omega)
      rw [cells_i] at h1
      obtain ⟨z, e, _⟩ := DataW.trod_int Tryz.underlying2 h2
      subst e
      have := (World.cells?_some h1).2.2 0 (by omega)
      exact ⟨z, by simpa [Addr.add] using this⟩
    obtain ⟨xs, hlen, hxs⟩ := some_of len key
    refine ⟨some a, len, cap, xs, rfl, by omega, by omega, ⟨hlen, ?_⟩⟩
    · by_cases h0 : len = 0
      · exact .inl h0
      · right
        obtain ⟨b, off, spot⟩ := a
        obtain ⟨s, hs⟩ := key 0 (by omega)
        have c0 : w.cell? ⟨b, off, spot⟩ = some (.int .i64 s) := by simpa [Addr.add] using hs
        have hspot : spot = none := by simpa using World.cell?_spot c0
        subst hspot
        refine ⟨b, off, rfl, block_lt_of_cell c0, fun i s e => ?_⟩
        have hk := hxs i s e
        simp only [add_plain] at hk
        simpa using hk
theorem open_rec {H : Type} {enc : TypeId × Value → H} {w : World} {spare : Nat → Bool} {held : Bool} {fuel : Nat} {cs : List Value} {x : DataW H × List MemPlace}
    (h : DataW.trod enc Tryz.prog w 0 spare held fuel 227 cs = some x) : ∃ (r : R4) (a : Option Addr) (cap : Nat), cs = [.int .i64 r.kind, .int .i64 r.tx, .int .i64 r.region, .slice a r.sets.length cap] ∧ Sl w w.heap.size a r.sets.length r.sets ∧ r.sets.length ≤ cap ∧ r.sets.length ≤ maxLen := by
  obtain ⟨xs, n, _, rfl, hl, hlen, hf⟩ := DataW.trod_struct Tryz.underlying227 h
  rw [cells_r] at hl
  obtain ⟨c0, c1, c2, c3, rfl⟩ := list4 hl
  obtain ⟨y0, y1, y2, y3, rfl⟩ := list4 hlen
  have h0 := hf 0 _ rfl
  have h1 := hf 1 _ rfl
  have h2 := hf 2 _ rfl
  have h3 := hf 3 _ rfl
  simp [cells_i, cells_ss] at h0 h1 h2 h3
  obtain ⟨z0, e0, _, _⟩ := DataW.trod_int Tryz.underlying2 h0
  obtain ⟨z1, e1, _, _⟩ := DataW.trod_int Tryz.underlying2 h1
  obtain ⟨z2, e2, _, _⟩ := DataW.trod_int Tryz.underlying2 h2
  obtain ⟨a, m, cap, ss, e3, hm, hc, hs⟩ := open_sets h3
  simp at e0 e1 e2 e3
  subst e0 e1 e2 e3
  obtain ⟨rfl, hs'⟩ := hs
  exact ⟨⟨z0, z1, z2, ss⟩, a, cap, rfl, ⟨rfl, hs'⟩, hc, hm⟩
theorem open_cop {H : Type} {enc : TypeId × Value → H} {w : World} {spare : Nat → Bool} {held : Bool} {fuel : Nat} {cs : List Value} {x : DataW H × List MemPlace}
    (h : DataW.trod enc Tryz.prog w 0 spare held fuel 224 cs = some x) : ∃ (k : K2) (a : Option Addr) (cap : Nat), cs = [.int .i64 k.region, .slice a k.cells.length cap] ∧ SlC w w.heap.size a k.cells.length k.cells ∧ k.cells.length ≤ cap ∧ k.cells.length ≤ maxLen := by
  obtain ⟨xs, n, _, rfl, hl, hlen, hf⟩ := DataW.trod_struct Tryz.underlying224 h
  rw [cells_k] at hl
  obtain ⟨c0, c1, rfl⟩ := list2 hl
  obtain ⟨y0, y1, rfl⟩ := list2 hlen
  have h0 := hf 0 _ rfl
  have h1 := hf 1 _ rfl
  simp [cells_i, cells_cs] at h0 h1
  obtain ⟨z0, e0, _, _⟩ := DataW.trod_int Tryz.underlying2 h0
  obtain ⟨a, m, cap, ss, e3, hm, hc, hs⟩ := open_cells h1
  simp at e0 e3
  subst e0 e3
  obtain ⟨rfl, hs'⟩ := hs
  exact ⟨⟨z0, ss⟩, a, cap, rfl, ⟨rfl, hs'⟩, hc, hm⟩
theorem open_recs {H : Type} {enc : TypeId × Value → H} {w : World} {spare : Nat → Bool} {held : Bool} {fuel : Nat} {cs : List Value} {x : DataW H × List MemPlace}
    (h : DataW.trod enc Tryz.prog w 0 spare held fuel 117 cs = some x) : ∃ a n cap xs, cs = [.slice a n cap] ∧ n ≤ maxLen ∧ n ≤ cap ∧ SlR w w.heap.size a n xs ∧ ∀ s ∈ xs, s.sets.length ≤ maxLen := by
  rcases open_slice Tryz.underlying117 h with ⟨rfl, _⟩ | ⟨a, len, cap, m, n, D, Pl, rfl, _, hl, hm, hmm, _, hx⟩
  · exact ⟨none, 0, 0, [], rfl, Nat.zero_le _, Nat.le_refl _, ⟨rfl, .inl rfl⟩, fun s hs => by cases hs⟩
  · have hlm : len ≤ m := by rw [hmm]; split <;> omega
    have key : ∀ i, i < len → ∃ s : R4, (∃ a' cap', (∀ k, k < 4 → w.cell? ((a.add (i * 4)).add k) = ([.int .i64 s.kind, .int .i64 s.tx, .int .i64 s.region, .slice a' s.sets.length cap'] : List Value)[k]?) ∧ Sl w w.heap.size a' s.sets.length s.sets ∧ s.sets.length ≤ cap') ∧ s.sets.length ≤ maxLen := fun i hi => by
      obtain ⟨cs', h1, h2⟩ := hx i (by omega)
      rw [cells_r] at h1
      obtain ⟨s, a', cap', rfl, t1, t2, t3⟩ := open_rec h2
      exact ⟨s, ⟨a', cap', (World.cells?_some h1).2.2, t1, t2⟩, t3⟩
    obtain ⟨xs, hlen, hxs⟩ := some_of len key
    refine ⟨some a, len, cap, xs, rfl, by omega, by omega, ⟨hlen, ?_⟩, ?_⟩
    · by_cases h0 : len = 0
      · exact .inl h0
      · right
        obtain ⟨b, off, spot⟩ := a
        obtain ⟨s, hs⟩ := key 0 (by omega)
        obtain ⟨⟨a', cap', hs, _⟩, _⟩ := hs
        have c0 := hs 0 (by omega)
        simp [Addr.add] at c0
        have hspot : spot = none := by simpa using World.cell?_spot c0
        subst hspot
        refine ⟨b, off, rfl, block_lt_of_cell c0, fun i s e => ?_⟩
        have hk := hxs i s e
        simp only [add_plain] at hk
        obtain ⟨⟨a', cap', hk, t1, t2⟩, _⟩ := hk
        exact ⟨by simpa using hk 0 (by omega), by simpa using hk 1 (by omega), by simpa using hk 2 (by omega), a', cap', by simpa using hk 3 (by omega), t1, t2⟩
    · intro s hs
      obtain ⟨i, hi, rfl⟩ := List.getElem_of_mem hs
      exact (hxs i _ (List.getElem?_eq_getElem hi)).2
theorem open_cops {H : Type} {enc : TypeId × Value → H} {w : World} {spare : Nat → Bool} {held : Bool} {fuel : Nat} {cs : List Value} {x : DataW H × List MemPlace}
    (h : DataW.trod enc Tryz.prog w 0 spare held fuel 116 cs = some x) : ∃ a n cap xs, cs = [.slice a n cap] ∧ n ≤ maxLen ∧ n ≤ cap ∧ SlK w w.heap.size a n xs ∧ ∀ s ∈ xs, s.cells.length ≤ maxLen := by
  rcases open_slice Tryz.underlying116 h with ⟨rfl, _⟩ | ⟨a, len, cap, m, n, D, Pl, rfl, _, hl, hm, hmm, _, hx⟩
  · exact ⟨none, 0, 0, [], rfl, Nat.zero_le _, Nat.le_refl _, ⟨rfl, .inl rfl⟩, fun s hs => by cases hs⟩
  · have hlm : len ≤ m := by rw [hmm]; split <;> omega
    have key : ∀ i, i < len → ∃ s : K2, (∃ a' cap', (∀ k, k < 2 → w.cell? ((a.add (i * 2)).add k) = ([.int .i64 s.region, .slice a' s.cells.length cap'] : List Value)[k]?) ∧ SlC w w.heap.size a' s.cells.length s.cells ∧ s.cells.length ≤ cap') ∧ s.cells.length ≤ maxLen := fun i hi => by
      obtain ⟨cs', h1, h2⟩ := hx i (by omega)
      rw [cells_k] at h1
      obtain ⟨s, a', cap', rfl, t1, t2, t3⟩ := open_cop h2
      exact ⟨s, ⟨a', cap', (World.cells?_some h1).2.2, t1, t2⟩, t3⟩
    obtain ⟨xs, hlen, hxs⟩ := some_of len key
    refine ⟨some a, len, cap, xs, rfl, by omega, by omega, ⟨hlen, ?_⟩, ?_⟩
    · by_cases h0 : len = 0
      · exact .inl h0
      · right
        obtain ⟨b, off, spot⟩ := a
        obtain ⟨s, hs⟩ := key 0 (by omega)
        obtain ⟨⟨a', cap', hs, _⟩, _⟩ := hs
        have c0 := hs 0 (by omega)
        simp [Addr.add] at c0
        have hspot : spot = none := by simpa using World.cell?_spot c0
        subst hspot
        refine ⟨b, off, rfl, block_lt_of_cell c0, fun i s e => ?_⟩
        have hk := hxs i s e
        simp only [add_plain] at hk
        obtain ⟨⟨a', cap', hk, t1, t2⟩, _⟩ := hk
        exact ⟨by simpa using hk 0 (by omega), a', cap', by simpa using hk 1 (by omega), t1, t2⟩
    · intro s hs
      obtain ⟨i, hi, rfl⟩ := List.getElem_of_mem hs
      exact (hxs i _ (List.getElem?_eq_getElem hi)).2
theorem open_machine {H : Type} {enc : TypeId × Value → H} {w : World} {spare : Nat → Bool} {held : Bool} {fuel : Nat} {cs : List Value} {x : DataW H × List MemPlace}
    (h : DataW.trod enc Tryz.prog w 0 spare held fuel 119 cs = some x) : ∃ (v : MV) (m : M4), cs = [.bool m.alive, .slice v.ac m.copies.length v.cc, .slice v.al m.log.length v.cl, .slice v.ad m.cleared.length v.cd] ∧ SlM w v m ∧ m.copies.length ≤ maxLen ∧ m.log.length ≤ maxLen ∧ m.cleared.length ≤ maxLen ∧ (∀ r ∈ m.copies, r.cells.length ≤ maxLen) ∧ (∀ r ∈ m.log, r.sets.length ≤ maxLen) ∧ m.copies.length ≤ v.cc ∧ m.log.length ≤ v.cl ∧ m.cleared.length ≤ v.cd := by
  obtain ⟨xs, n, _, rfl, hl, hlen, hf⟩ := DataW.trod_struct Tryz.underlying119 h
  rw [cells_m] at hl
  obtain ⟨c0, c1, c2, c3, rfl⟩ := list4 hl
  obtain ⟨y0, y1, y2, y3, rfl⟩ := list4 hlen
  have h0 := hf 0 _ rfl
  have h1 := hf 1 _ rfl
  have h2 := hf 2 _ rfl
  have h3 := hf 3 _ rfl
  simp [cells_b, cells_ks, cells_rs, cells_is] at h0 h1 h2 h3
  obtain ⟨z0, e0, _⟩ := DataW.trod_bool Tryz.underlying4 h0
  obtain ⟨a1, n1, k1, ks, e1, l1, p1, s1, q1⟩ := open_cops h1
  obtain ⟨a2, n2, k2, rs, e2, l2, p2, s2, q2⟩ := open_recs h2
  obtain ⟨a3, n3, k3, zs, e3, l3, p3, s3⟩ := open_nums h3
  simp at e0 e1 e2 e3
  subst e0 e1 e2 e3
  obtain ⟨rfl, s1'⟩ := s1
  obtain ⟨rfl, s2'⟩ := s2
  obtain ⟨rfl, s3'⟩ := s3
  exact ⟨⟨a1, k1, a2, k2, a3, k3⟩, ⟨z0, ks, rs, zs⟩, rfl, ⟨⟨rfl, s1'⟩, ⟨rfl, s2'⟩, ⟨rfl, s3'⟩⟩, l1, l2, l3, q1, q2, p1, p2, p3⟩
end Go.Proofs.YtnhjgomfkfehgaaGreatDoor.om
namespace Go.Proofs.YtnhjgomfkfehgaaGreatDoor.tx.ot
open Go.ChangeShapes Go.WideShapes Go.ChangeAt Go.RowKit Go.Deep
theorem cells_i : Tryz.prog.cellsOf 2 = 1 := by kernel_rfl
theorem cells_ss : Tryz.prog.cellsOf 122 = 1 := by kernel_rfl
theorem cells_ns : Tryz.prog.cellsOf 121 = 1 := by kernel_rfl
theorem cells_t : Tryz.prog.cellsOf 124 = 7 := by kernel_rfl
theorem list7 {α : Type} {cs : List α} (h : cs.length = 7) : ∃ c0 c1 c2 c3 c4 c5 c6, cs = [c0, c1, c2, c3, c4, c5, c6] := by
  match cs, h with
  | [c0, c1, c2, c3, c4, c5, c6], _ => exact ⟨c0, c1, c2, c3, c4, c5, c6, rfl⟩
theorem some_of {α : Type} {p : Nat → α → Prop} (n : Nat) (h : ∀ i, i < n → ∃ x, p i x) : ∃ xs : List α, xs.length = n ∧ ∀ i x, xs[i]? = some x → p i x := by
  induction n with
  | zero => exact ⟨[], rfl, fun i x e => by simp at e⟩
  | succ n ih =>
    obtain ⟨xs, hl, hx⟩ := ih fun i hi => h i (by omega)
    obtain ⟨y, hy⟩ := h n (by omega)
    refine ⟨xs ++ [y], by simp [hl], fun i x e => ?_⟩
    by_cases hi : i < xs.length
    · rw [List.getElem?_append_left hi] at e
      exact hx i x e
    · rw [List.getElem?_append_right (by omega)] at e
      have : i = xs.length := by
        by_cases h2 : i - xs.length = 0
        · omega
        · rw [List.getElem?_eq_none (by simp; omega)] at e; cases e
      subst this
      simp at e
      subst e
      rw [hl]; exact hy
theorem list5 {α : Type} {cs : List α} (h : cs.length = 5) : ∃ c0 c1 c2 c3 c4, cs = [c0, c1, c2, c3, c4] := by
  match cs, h with
  | [c0, c1, c2, c3, c4], _ => exact ⟨c0, c1, c2, c3, c4, rfl⟩
theorem cells_set : Tryz.prog.cellsOf 234 = 5 := by kernel_rfl
theorem cells_int : Tryz.prog.cellsOf 2 = 1 := by kernel_rfl
theorem cells_bool : Tryz.prog.cellsOf 4 = 1 := by kernel_rfl
def setCells (s : S5) : List Value := [.int .i64 s.region, .int .i64 s.slot, .int .i64 s.value, .bool s.used, .int .i64 s.version]
def setWf (s : S5) : Prop := (Lit.int .i64 s.region).wf = true ∧ (Lit.int .i64 s.slot).wf = true ∧ (Lit.int .i64 s.value).wf = true ∧ (Lit.int .i64 s.version).wf = true
theorem open_set {H : Type} {enc : TypeId × Value → H} {w : World} {base : Nat} {spare : Nat → Bool} {held : Bool} {fuel : Nat} {cs : List Value} {x : DataW H × List MemPlace}
    (h : DataW.trod enc Tryz.prog w base spare held fuel 234 cs = some x) : ∃ s : S5, cs = (setCells s) ∧ setWf s := by
  obtain ⟨xs, n, _, rfl, hl, hlen, hf⟩ := DataW.trod_struct Tryz.underlying234 h
  rw [cells_set] at hl
  obtain ⟨c0, c1, c2, c3, c4, rfl⟩ := list5 hl
  obtain ⟨y0, y1, y2, y3, y4, rfl⟩ := list5 hlen
  have h0 := hf 0 _ rfl
  have h1 := hf 1 _ rfl
  have h2 := hf 2 _ rfl
  have h3 := hf 3 _ rfl
  have h4 := hf 4 _ rfl
  simp [cells_int, cells_bool] at h0 h1 h2 h3 h4
  obtain ⟨z0, e0, _, f0⟩ := DataW.trod_int Tryz.underlying2 h0
  obtain ⟨z1, e1, _, f1⟩ := DataW.trod_int Tryz.underlying2 h1
  obtain ⟨z2, e2, _, f2⟩ := DataW.trod_int Tryz.underlying2 h2
  obtain ⟨z3, e3, _⟩ := DataW.trod_bool Tryz.underlying4 h3
  obtain ⟨z4, e4, _, f4⟩ := DataW.trod_int Tryz.underlying2 h4
  simp at e0 e1 e2 e3 e4
  subst e0 e1 e2 e3 e4
  exact ⟨⟨z0, z1, z2, z3, z4⟩, rfl, f0, f1, f2, f4⟩
theorem open_sets {H : Type} {enc : TypeId × Value → H} {w : World} {spare : Nat → Bool} {held : Bool} {fuel : Nat} {cs : List Value} {x : DataW H × List MemPlace}
    (h : DataW.trod enc Tryz.prog w 0 spare held fuel 122 cs = some x) : ∃ a n cap xs, cs = [.slice a n cap] ∧ n ≤ maxLen ∧ n ≤ cap ∧ Sl w w.heap.size a n xs := by
  rcases open_slice Tryz.underlying122 h with ⟨rfl, _⟩ | ⟨a, len, cap, m, n, D, Pl, rfl, _, hl, hm, hmm, _, hx⟩
  · exact ⟨none, 0, 0, [], rfl, Nat.zero_le _, Nat.le_refl _, ⟨rfl, .inl rfl⟩⟩
  · have hlm : len ≤ m := by rw [hmm]; split <;> omega
    have key : ∀ i, i < len → ∃ s : S5, ∀ k, k < 5 → w.cell? ((a.add (i * 5)).add k) = (setCells s)[k]? := fun i hi => by
      obtain ⟨cs', h1, h2⟩ := hx i (by omega)
      rw [cells_set] at h1
      obtain ⟨s, rfl, _⟩ := open_set h2
      exact ⟨s, (World.cells?_some h1).2.2⟩
    obtain ⟨xs, hlen, hxs⟩ := some_of len key
    refine ⟨some a, len, cap, xs, rfl, by omega, by omega, ⟨hlen, ?_⟩⟩
    · by_cases h0 : len = 0
      · exact .inl h0
      · right
        obtain ⟨b, off, spot⟩ := a
        obtain ⟨s, hs⟩ := key 0 (by omega)
        have c0 : w.cell? ⟨b, off, spot⟩ = some (.int .i64 s.region) := by simpa [Addr.add, setCells] using hs 0 (by omega)
        have hspot : spot = none := by simpa using World.cell?_spot c0
        subst hspot
        refine ⟨b, off, rfl, block_lt_of_cell c0, fun i s e => ?_⟩
        have hk := hxs i s e
        simp only [add_plain] at hk
        exact ⟨by simpa [setCells] using hk 0 (by omega), by simpa [setCells] using hk 1 (by omega), by simpa [setCells] using hk 2 (by omega), by simpa [setCells] using hk 3 (by omega), by simpa [setCells] using hk 4 (by omega)⟩
theorem cells_note : Tryz.prog.cellsOf 232 = 5 := by kernel_rfl
def noteCells (s : N5) : List Value := [.int .i64 s.region, .int .i64 s.slot, .int .i64 s.version, .int .i64 s.value, .bool s.used]
def noteWf (s : N5) : Prop := (Lit.int .i64 s.region).wf = true ∧ (Lit.int .i64 s.slot).wf = true ∧ (Lit.int .i64 s.version).wf = true ∧ (Lit.int .i64 s.value).wf = true
theorem open_note {H : Type} {enc : TypeId × Value → H} {w : World} {base : Nat} {spare : Nat → Bool} {held : Bool} {fuel : Nat} {cs : List Value} {x : DataW H × List MemPlace}
    (h : DataW.trod enc Tryz.prog w base spare held fuel 232 cs = some x) : ∃ s : N5, cs = (noteCells s) ∧ noteWf s := by
  obtain ⟨xs, n, _, rfl, hl, hlen, hf⟩ := DataW.trod_struct Tryz.underlying232 h
  rw [cells_note] at hl
  obtain ⟨c0, c1, c2, c3, c4, rfl⟩ := list5 hl
  obtain ⟨y0, y1, y2, y3, y4, rfl⟩ := list5 hlen
  have h0 := hf 0 _ rfl
  have h1 := hf 1 _ rfl
  have h2 := hf 2 _ rfl
  have h3 := hf 3 _ rfl
  have h4 := hf 4 _ rfl
  simp [cells_int, cells_bool] at h0 h1 h2 h3 h4
  obtain ⟨z0, e0, _, f0⟩ := DataW.trod_int Tryz.underlying2 h0
  obtain ⟨z1, e1, _, f1⟩ := DataW.trod_int Tryz.underlying2 h1
  obtain ⟨z2, e2, _, f2⟩ := DataW.trod_int Tryz.underlying2 h2
  obtain ⟨z3, e3, _, f4⟩ := DataW.trod_int Tryz.underlying2 h3
  obtain ⟨z4, e4, _⟩ := DataW.trod_bool Tryz.underlying4 h4
  simp at e0 e1 e2 e3 e4
  subst e0 e1 e2 e3 e4
  exact ⟨⟨z0, z1, z2, z3, z4⟩, rfl, f0, f1, f2, f4⟩
theorem open_notes {H : Type} {enc : TypeId × Value → H} {w : World} {spare : Nat → Bool} {held : Bool} {fuel : Nat} {cs : List Value} {x : DataW H × List MemPlace}
    (h : DataW.trod enc Tryz.prog w 0 spare held fuel 121 cs = some x) : ∃ a n cap xs, cs = [.slice a n cap] ∧ n ≤ maxLen ∧ n ≤ cap ∧ SlNo w w.heap.size a n xs := by
  rcases open_slice Tryz.underlying121 h with ⟨rfl, _⟩ | ⟨a, len, cap, m, n, D, Pl, rfl, _, hl, hm, hmm, _, hx⟩
  · exact ⟨none, 0, 0, [], rfl, Nat.zero_le _, Nat.le_refl _, ⟨rfl, .inl rfl⟩⟩
  · have hlm : len ≤ m := by rw [hmm]; split <;> omega
    have key : ∀ i, i < len → ∃ s : N5, ∀ k, k < 5 → w.cell? ((a.add (i * 5)).add k) = (noteCells s)[k]? := fun i hi => by
      obtain ⟨cs', h1, h2⟩ := hx i (by omega)
      rw [cells_note] at h1
      obtain ⟨s, rfl, _⟩ := open_note h2
      exact ⟨s, (World.cells?_some h1).2.2⟩
    obtain ⟨xs, hlen, hxs⟩ := some_of len key
    refine ⟨some a, len, cap, xs, rfl, by omega, by omega, ⟨hlen, ?_⟩⟩
    · by_cases h0 : len = 0
      · exact .inl h0
      · right
        obtain ⟨b, off, spot⟩ := a
        obtain ⟨s, hs⟩ := key 0 (by omega)
        have c0 : w.cell? ⟨b, off, spot⟩ = some (.int .i64 s.region) := by simpa [Addr.add, noteCells] using hs 0 (by omega)
        have hspot : spot = none := by simpa using World.cell?_spot c0
        subst hspot
        refine ⟨b, off, rfl, block_lt_of_cell c0, fun i s e => ?_⟩
        have hk := hxs i s e
        simp only [add_plain] at hk
        exact ⟨by simpa [noteCells] using hk 0 (by omega), by simpa [noteCells] using hk 1 (by omega), by simpa [noteCells] using hk 2 (by omega), by simpa [noteCells] using hk 3 (by omega), by simpa [noteCells] using hk 4 (by omega)⟩
theorem open_tx {H : Type} {enc : TypeId × Value → H} {w : World} {spare : Nat → Bool} {held : Bool} {fuel : Nat} {cs : List Value} {x : DataW H × List MemPlace}
    (h : DataW.trod enc Tryz.prog w 0 spare held fuel 124 cs = some x) : ∃ (v : TV) (t : T7), cs = [.int .i64 t.id, .int .i64 t.home, .int .i64 t.phase, .int .i64 t.count, .slice v.ar t.reads.length v.cr, .slice v.ah t.sets.length v.ch, .int .i64 t.stamp] ∧ SlT w v t ∧ TL t := by
  obtain ⟨xs, n, _, rfl, hl, hlen, hf⟩ := DataW.trod_struct Tryz.underlying124 h
  rw [cells_t] at hl
  obtain ⟨c0, c1, c2, c3, c4, c5, c6, rfl⟩ := list7 hl
  obtain ⟨y0, y1, y2, y3, y4, y5, y6, rfl⟩ := list7 hlen
  have h0 := hf 0 _ rfl
  have h1 := hf 1 _ rfl
  have h2 := hf 2 _ rfl
  have h3 := hf 3 _ rfl
  have h4 := hf 4 _ rfl
  have h5 := hf 5 _ rfl
  have h6 := hf 6 _ rfl
  simp [cells_i, cells_ns, cells_ss] at h0 h1 h2 h3 h4 h5 h6
  obtain ⟨z0, e0, _, _⟩ := DataW.trod_int Tryz.underlying2 h0
  obtain ⟨z1, e1, _, _⟩ := DataW.trod_int Tryz.underlying2 h1
  obtain ⟨z2, e2, _, _⟩ := DataW.trod_int Tryz.underlying2 h2
  obtain ⟨z3, e3, _, _⟩ := DataW.trod_int Tryz.underlying2 h3
  obtain ⟨a4, n4, k4, ns, e4, l4, p4, s4⟩ := open_notes h4
  obtain ⟨a5, n5, k5, ss, e5, l5, p5, s5⟩ := open_sets h5
  obtain ⟨z6, e6, _, _⟩ := DataW.trod_int Tryz.underlying2 h6
  simp at e0 e1 e2 e3 e4 e5 e6
  subst e0 e1 e2 e3 e4 e5 e6
  obtain ⟨rfl, s4'⟩ := s4
  obtain ⟨rfl, s5'⟩ := s5
  exact ⟨⟨a4, k4, a5, k5⟩, ⟨z0, z1, z2, z3, ns, ss, z6⟩, rfl, ⟨⟨rfl, s4'⟩, ⟨rfl, s5'⟩⟩, ⟨l4, l5⟩⟩
end Go.Proofs.YtnhjgomfkfehgaaGreatDoor.tx.ot
namespace Go.Proofs.YtnhjgomfkfehgaaGreatDoor.oc
open Go.ChangeShapes Go.WideShapes Go.ChangeAt Go.RowKit Go.Deep
theorem cells_one : Tryz.prog.cellsOf 2 = 1 := by kernel_rfl
theorem cells_row : Tryz.prog.cellsOf 60 = 1 := by kernel_rfl
theorem cells_place : Tryz.prog.cellsOf 114 = 1 := by kernel_rfl
theorem list1 {α : Type} {cs : List α} (h : cs.length = 1) : ∃ c0, cs = [c0] := by
  match cs, h with
  | [c0], _ => exact ⟨c0, rfl⟩
theorem rows_of {α : Type} {p : Nat → α → Prop} (n : Nat) (h : ∀ i, i < n → ∃ x, p i x) : ∃ xs : List α, xs.length = n ∧ ∀ i x, xs[i]? = some x → p i x := by
  induction n with
  | zero => exact ⟨[], rfl, fun i x e => by simp at e⟩
  | succ n ih =>
    obtain ⟨xs, hl, hx⟩ := ih fun i hi => h i (by omega)
    obtain ⟨y, hy⟩ := h n (by omega)
    refine ⟨xs ++ [y], by simp [hl], fun i x e => ?_⟩
    by_cases hi : i < xs.length
    · rw [List.getElem?_append_left hi] at e
      exact hx i x e
    · rw [List.getElem?_append_right (by omega)] at e
      have : i = xs.length := by
        by_cases h2 : i - xs.length = 0
        · omega
        · rw [List.getElem?_eq_none (by simp; omega)] at e; cases e
      subst this
      simp at e
      subst e
      rw [hl]; exact hy
theorem open_numrow {H : Type} {enc : TypeId × Value → H} {w : World} {spare : Nat → Bool} {held : Bool} {fuel : Nat} {cs : List Value} {x : DataW H × List MemPlace}
    (h : DataW.trod enc Tryz.prog w 0 spare held fuel 60 cs = some x) : ∃ a n cap zs, cs = [.slice a n cap] ∧ n ≤ maxLen ∧ n ≤ cap ∧ SlN w w.heap.size a n zs := by
  rcases open_slice Tryz.underlying60 h with ⟨rfl, _⟩ | ⟨a, len, cap, m, n, D, Pl, rfl, _, hl, hm, hmm, _, hx⟩
  · exact ⟨none, 0, 0, [], rfl, Nat.zero_le _, Nat.le_refl _, ⟨rfl, .inl rfl⟩⟩
  · have hlm : len ≤ m := by rw [hmm]; split <;> omega
    have key : ∀ i, i < len → ∃ z : Int, w.cell? (a.add (i * 1)) = some (.int .i64 z) := fun i hi => by
      obtain ⟨cs', h1, h2⟩ := hx i (by omega)
      rw [cells_one] at h1
      obtain ⟨z, e, _⟩ := DataW.trod_int Tryz.underlying2 h2
      subst e
      have := (World.cells?_some h1).2.2 0 (by omega)
      exact ⟨z, by simpa [Addr.add] using this⟩
    obtain ⟨zs, hlen, hzs⟩ := rows_of len key
    refine ⟨some a, len, cap, zs, rfl, by omega, by omega, ⟨hlen, ?_⟩⟩
    by_cases h0 : len = 0
    · exact .inl h0
    · right
      obtain ⟨b, off, spot⟩ := a
      obtain ⟨z, hz⟩ := key 0 (by omega)
      have c0 : w.cell? ⟨b, off, spot⟩ = some (.int .i64 z) := by simpa [Addr.add] using hz
      have hspot : spot = none := by simpa using World.cell?_spot c0
      subst hspot
      refine ⟨b, off, rfl, block_lt_of_cell c0, fun i z e => ?_⟩
      have hk := hzs i z e
      simpa [add_plain] using hk
def PlaceIs (w : World) (v : Value) (zs : List Int) : Prop := ∃ a cap, v = .slice a zs.length cap ∧ SlN w w.heap.size a zs.length zs ∧ zs.length ≤ cap ∧ zs.length ≤ maxLen
theorem open_place {H : Type} {enc : TypeId × Value → H} {w : World} {spare : Nat → Bool} {held : Bool} {fuel : Nat} {cs : List Value} {x : DataW H × List MemPlace}
    (h : DataW.trod enc Tryz.prog w 0 spare held fuel 114 cs = some x) : ∃ v zs, cs = [v] ∧ PlaceIs w v zs := by
  obtain ⟨xs, n, _, rfl, hl, hlen, hf⟩ := DataW.trod_struct Tryz.underlying114 h
  rw [cells_place] at hl
  obtain ⟨c0, rfl⟩ := list1 hl
  obtain ⟨y0, rfl⟩ := list1 hlen
  have h0 := hf 0 _ rfl
  simp [cells_row] at h0
  obtain ⟨a, m, cap, zs, e, hm, hc, hs⟩ := open_numrow h0
  simp at e
  subst e
  obtain rfl : zs.length = m := hs.1
  exact ⟨_, zs, rfl, a, cap, rfl, hs, hc, hm⟩
theorem open_placerow {H : Type} {enc : TypeId × Value → H} {w : World} {spare : Nat → Bool} {held : Bool} {fuel : Nat} {cs : List Value} {x : DataW H × List MemPlace}
    (h : DataW.trod enc Tryz.prog w 0 spare held fuel 22 cs = some x) : ∃ a n cap zss, cs = [.slice a n cap] ∧ n ≤ maxLen ∧ SlP w w.heap.size a n zss ∧ ∀ zs ∈ zss, zs.length ≤ maxLen := by
  rcases open_slice Tryz.underlying22 h with ⟨rfl, _⟩ | ⟨a, len, cap, m, n, D, Pl, rfl, _, hl, hm, hmm, _, hx⟩
  · exact ⟨none, 0, 0, [], rfl, Nat.zero_le _, ⟨rfl, .inl rfl⟩, fun zs h => by simp at h⟩
  · have hlm : len ≤ m := by rw [hmm]; split <;> omega
    have key : ∀ i, i < len → ∃ zs : List Int, ∃ v, w.cell? (a.add (i * 1)) = some v ∧ PlaceIs w v zs := fun i hi => by
      obtain ⟨cs', h1, h2⟩ := hx i (by omega)
      rw [cells_place] at h1
      obtain ⟨v, zs, rfl, hp⟩ := open_place h2
      have := (World.cells?_some h1).2.2 0 (by omega)
      exact ⟨zs, v, by simpa [Addr.add] using this, hp⟩
    obtain ⟨zss, hlen, hzs⟩ := rows_of len key
    refine ⟨some a, len, cap, zss, rfl, by omega, ⟨hlen, ?_⟩, fun zs hz => ?_⟩
    · by_cases h0 : len = 0
      · exact .inl h0
      · right
        obtain ⟨b, off, spot⟩ := a
        obtain ⟨zs, v, hz, _⟩ := key 0 (by omega)
        have c0 : w.cell? ⟨b, off, spot⟩ = some v := by simpa [Addr.add] using hz
        have hspot : spot = none := by simpa using World.cell?_spot c0
        subst hspot
        refine ⟨b, off, rfl, block_lt_of_cell c0, fun i zs e => ?_⟩
        obtain ⟨v, hk, a', cap', rfl, hs, hc, _⟩ := hzs i zs e
        exact ⟨a', cap', by simpa [add_plain] using hk, hs, hc⟩
    · obtain ⟨i, hi, rfl⟩ := List.getElem_of_mem hz
      obtain ⟨v, _, _, _, _, _, _, hm⟩ := hzs i _ (List.getElem?_eq_getElem hi)
      exact hm
theorem cells_machs : Tryz.prog.cellsOf 119 = 4 := by kernel_rfl
theorem open_machs {H : Type} {enc : TypeId × Value → H} {w : World} {spare : Nat → Bool} {held : Bool} {fuel : Nat} {cs : List Value} {x : DataW H × List MemPlace}
    (h : DataW.trod enc Tryz.prog w 0 spare held fuel 23 cs = some x) : ∃ (a : Option Addr) (cap : Nat) (xs : List M4), cs = [.slice a xs.length cap] ∧ xs.length ≤ maxLen ∧ KMk.RdS w a xs ∧ ∀ d ∈ xs, ML d := by
  rcases open_slice Tryz.underlying23 h with ⟨rfl, _⟩ | ⟨a, len, cap, m, n, DD, Pl, rfl, _, hl, hm, hmm, _, hx⟩
  · exact ⟨none, 0, [], rfl, Nat.zero_le _, .inl rfl, fun s hs => by cases hs⟩
  · have hlm : len ≤ m := by rw [hmm]; split <;> omega
    have key : ∀ i, i < len → ∃ d : M4, ∃ v : MV, (∀ k, k < 4 → w.cell? ((a.add (i * 4)).add k) = (KMk.cells v d)[k]?) ∧ KMk.Rd w v d ∧ ML d := fun i hi => by
      obtain ⟨cs', h1, h2⟩ := hx i (by omega)
      rw [cells_machs] at h1
      obtain ⟨v, d, rfl, t1, l1, l2, l3, k1, k2, _⟩ := om.open_machine h2
      exact ⟨d, v, (World.cells?_some h1).2.2, t1, ⟨l1, k1, l2, k2, l3⟩⟩
    obtain ⟨xs, hlen, hxs⟩ := rows_of len key
    subst hlen
    refine ⟨some a, cap, xs, rfl, by omega, ?_, ?_⟩
    · by_cases h0 : xs = []
      · exact .inl h0
      · right
        obtain ⟨b, off, spot⟩ := a
        obtain ⟨d, v, hs, _⟩ := key 0 (by have := List.length_pos_iff.2 h0; omega)
        have c0 := hs 0 (by omega)
        simp [Addr.add, KMk] at c0
        have hspot : spot = none := by simpa using World.cell?_spot c0
        subst hspot
        refine ⟨b, off, rfl, block_lt_of_cell c0, fun i d e => ?_⟩
        obtain ⟨v, hk, t1, _⟩ := hxs i d e
        simp only [add_plain] at hk
        refine ⟨v, fun j u hu => ?_, t1⟩
        have hj : j < 4 := by have := (List.getElem?_eq_some_iff.1 hu).1; rwa [KMk.len] at this
        have := hk j hj
        rw [hu] at this
        exact this
    · intro d hd
      obtain ⟨i, hi, rfl⟩ := List.getElem_of_mem hd
      obtain ⟨_, _, _, h3⟩ := hxs i _ (List.getElem?_eq_getElem hi)
      exact h3
theorem cells_txs : Tryz.prog.cellsOf 124 = 7 := by kernel_rfl
theorem open_txs {H : Type} {enc : TypeId × Value → H} {w : World} {spare : Nat → Bool} {held : Bool} {fuel : Nat} {cs : List Value} {x : DataW H × List MemPlace}
    (h : DataW.trod enc Tryz.prog w 0 spare held fuel 24 cs = some x) : ∃ (a : Option Addr) (cap : Nat) (xs : List tx.T7), cs = [.slice a xs.length cap] ∧ xs.length ≤ maxLen ∧ KTk.RdS w a xs ∧ ∀ d ∈ xs, tx.TL d := by
  rcases open_slice Tryz.underlying24 h with ⟨rfl, _⟩ | ⟨a, len, cap, m, n, DD, Pl, rfl, _, hl, hm, hmm, _, hx⟩
  · exact ⟨none, 0, [], rfl, Nat.zero_le _, .inl rfl, fun s hs => by cases hs⟩
  · have hlm : len ≤ m := by rw [hmm]; split <;> omega
    have key : ∀ i, i < len → ∃ d : tx.T7, ∃ v : tx.TV, (∀ k, k < 7 → w.cell? ((a.add (i * 7)).add k) = (KTk.cells v d)[k]?) ∧ KTk.Rd w v d ∧ tx.TL d := fun i hi => by
      obtain ⟨cs', h1, h2⟩ := hx i (by omega)
      rw [cells_txs] at h1
      obtain ⟨v, d, rfl, t1, l1⟩ := tx.ot.open_tx h2
      exact ⟨d, v, (World.cells?_some h1).2.2, t1, l1⟩
    obtain ⟨xs, hlen, hxs⟩ := rows_of len key
    subst hlen
    refine ⟨some a, cap, xs, rfl, by omega, ?_, ?_⟩
    · by_cases h0 : xs = []
      · exact .inl h0
      · right
        obtain ⟨b, off, spot⟩ := a
        obtain ⟨d, v, hs, _⟩ := key 0 (by have := List.length_pos_iff.2 h0; omega)
        have c0 := hs 0 (by omega)
        simp [Addr.add, KTk] at c0
        have hspot : spot = none := by simpa using World.cell?_spot c0
        subst hspot
        refine ⟨b, off, rfl, block_lt_of_cell c0, fun i d e => ?_⟩
        obtain ⟨v, hk, t1, _⟩ := hxs i d e
        simp only [add_plain] at hk
        refine ⟨v, fun j u hu => ?_, t1⟩
        have hj : j < 7 := by have := (List.getElem?_eq_some_iff.1 hu).1; rwa [KTk.len] at this
        have := hk j hj
        rw [hu] at this
        exact this
    · intro d hd
      obtain ⟨i, hi, rfl⟩ := List.getElem_of_mem hd
      obtain ⟨_, _, _, h3⟩ := hxs i _ (List.getElem?_eq_getElem hi)
      exact h3
theorem cells_cl : Tryz.prog.cellsOf 26 = 6 := by kernel_rfl
theorem cells_ip : Tryz.prog.cellsOf 22 = 1 := by kernel_rfl
theorem cells_im : Tryz.prog.cellsOf 23 = 1 := by kernel_rfl
theorem cells_it : Tryz.prog.cellsOf 24 = 1 := by kernel_rfl
theorem cells_ib : Tryz.prog.cellsOf 4 = 1 := by kernel_rfl
theorem list6 {α : Type} {cs : List α} (h : cs.length = 6) : ∃ c0 c1 c2 c3 c4 c5, cs = [c0, c1, c2, c3, c4, c5] := by
  match cs, h with
  | [c0, c1, c2, c3, c4, c5], _ => exact ⟨c0, c1, c2, c3, c4, c5, rfl⟩
theorem open_cluster {H : Type} {enc : TypeId × Value → H} {w : World} {spare : Nat → Bool} {held : Bool} {fuel : Nat} {cs : List Value} {x : DataW H × List MemPlace}
    (h : DataW.trod enc Tryz.prog w 0 spare held fuel 26 cs = some x) : ∃ (a1 : Option Addr) (c1 : Nat) (a2 : Option Addr) (c2 : Nat) (a3 : Option Addr) (c3 : Nat) (k : C6), cs = [.int .i64 k.config, .int .i64 k.clock, .slice a1 k.places.length c1, .slice a2 k.machines.length c2, .slice a3 k.txs.length c3, .bool k.lost] ∧ KCl.Rd w a1 c1 a2 c2 a3 c3 k ∧ KCl.L k := by
  obtain ⟨xs, n, _, rfl, hl, hlen, hf⟩ := DataW.trod_struct Tryz.underlying26 h
  rw [cells_cl] at hl
  obtain ⟨c0, c1, c2, c3, c4, c5, rfl⟩ := list6 hl
  obtain ⟨y0, y1, y2, y3, y4, y5, rfl⟩ := list6 hlen
  have h0 := hf 0 _ rfl
  have h1 := hf 1 _ rfl
  have h2 := hf 2 _ rfl
  have h3 := hf 3 _ rfl
  have h4 := hf 4 _ rfl
  have h5 := hf 5 _ rfl
  simp [cells_one, cells_ip, cells_im, cells_it, cells_ib] at h0 h1 h2 h3 h4 h5
  obtain ⟨z0, e0, _, _⟩ := DataW.trod_int Tryz.underlying2 h0
  obtain ⟨z1, e1, _, _⟩ := DataW.trod_int Tryz.underlying2 h1
  obtain ⟨a1, n1, k1, zss, e2, l1, s1, q1⟩ := open_placerow h2
  obtain ⟨a2, k2, ms, e3, l2, s2, q2⟩ := open_machs h3
  obtain ⟨a3, k3, ts, e4, l3, s3, q3⟩ := open_txs h4
  obtain ⟨z5, e5, _⟩ := DataW.trod_bool Tryz.underlying4 h5
  simp at e0 e1 e2 e3 e4 e5
  subst e0 e1 e2 e3 e4 e5
  obtain rfl : zss.length = n1 := s1.1
  exact ⟨a1, k1, a2, k2, a3, k3, ⟨z0, z1, zss, ms, ts, z5⟩, rfl, ⟨s1, s2, s3⟩, ⟨l1, q1, l2, q2, l3, q3⟩⟩
end Go.Proofs.YtnhjgomfkfehgaaGreatDoor.oc