/- Rows of machines marked: nothing else is turned. -/
import Derived.Test.YtalmflikdnflfaaGreatRows
import Derived.Test.YtalmflikdnflfaaGreatJ32ExactFind
import Derived.Test.YtalmflikdnflfaaGreatJ13ExactFind
import Derived.WalkKit
import Derived.WalkSpells
import Derived.WalkLawsBesides
import Derived.Below
import Derived.Lib.QuietBelow
import Derived.BigQuiet
import Derived.Deep.CutRange
namespace Go.Proofs.YtalmflikdnflfaaGreat
open Go.RowKit
open Go.Sort (grow)
/-- A row under way: from j on its elements are as they were. -/
structure Kd.Rest {D V : Type} (K : Kd D V) (X : World) (B b n : Nat) (ys : List D) (g : Nat → Nat → Prop) (j : Nat) : Prop where
  rm : Room X b (n * K.n)
  at_ : ∀ i d, j ≤ i → ys[i]? = some d → ∃ v, At X b (i * K.n) (K.cells v d) ∧ K.Ow X B v d (g i)
  ne : ∀ i q, i < ys.length → g i q → q ≠ b
  ap : ∀ i j q, i < ys.length → j < ys.length → i ≠ j → g i q → ¬ g j q
theorem Kd.Part.rest {D V : Type} {K : Kd D V} {X : World} {B b n : Nat} {ys : List D} {g : Nat → Nat → Prop} (h : K.Part X B b n ys g) : K.Rest X B b n ys g 0 := ⟨h.rm, fun i d _ hi => h.at_ i d hi, h.ne, h.ap⟩
theorem Kd.Rest.up {D V : Type} {K : Kd D V} {X : World} {B b n : Nat} {ys : List D} {g : Nat → Nat → Prop} {j : Nat} (h : K.Rest X B b n ys g j) : K.Rest X B b n ys g (j + 1) := ⟨h.rm, fun i d hj hi => h.at_ i d (by omega) hi, h.ne, h.ap⟩
theorem Kd.Rest.set {D V : Type} {K : Kd D V} {X : World} {B b n : Nat} {ys : List D} {g : Nat → Nat → Prop} {j o : Nat} (h : K.Rest X B b n ys g (j + 1)) (ho : o < (j + 1) * K.n) (u : Value) : K.Rest (X.setCell ⟨b, o, none⟩ u) B b n ys g (j + 1) := by
  refine ⟨h.rm.set _, fun i d hj hi => ?_, h.ne, h.ap⟩
  obtain ⟨v, h1, h2⟩ := h.at_ i d hj hi
  have hm := Nat.mul_le_mul_right K.n hj
  exact ⟨v, fun q u' e => (cell_set_other (by omega)).trans (h1 q u' e), K.keep h2 (by simp [World.setCell]) (fun q hq => Below.heap_setCell _ _ _ _ (h.ne i q (List.getElem?_eq_some_iff.1 hi).1 hq))⟩
theorem Kd.Rest.kept {D V : Type} {K : Kd D V} {X Y : World} {B b n : Nat} {ys : List D} {g : Nat → Nat → Prop} {j : Nat} {Q : Nat → Prop} (h : K.Rest X B b n ys g (j + 1)) (hk : KeptP Q X Y) (hb : b < X.heap.size) (hj : j < ys.length) (hQ : ∀ q, Q q → g j q) : K.Rest Y B b n ys g (j + 1) := by
  have hbb : Y.heap[b]? = X.heap[b]? := hk.block b hb (fun e => h.ne j b hj (hQ b e) rfl)
  refine ⟨room_blk h.rm hbb, fun i d hji hi => ?_, h.ne, h.ap⟩
  obtain ⟨v, h1, h2⟩ := h.at_ i d hji hi
  have hl := (List.getElem?_eq_some_iff.1 hi).1
  exact ⟨v, h1.of_block hbb, K.keep h2 hk.size (fun q hq => hk.block q (K.of h2 hq).2 (fun e => h.ap i j q hl hj (by omega) hq (hQ q e)))⟩
/-- What marking a machine in a row counts. -/
def cM (m : M4) : Nat := 1 + (offG cK m.copies m.copies.length + offG cR m.log m.log.length + m.cleared.length)
/-- A machine in a row under way. -/
structure MRow (w X : World) (B b : Nat) (ms : List M4) (g : Nat → Nat → Prop) (P : Nat → Prop) (j : Nat) (a2 : Option Addr) (c2 : Nat) (a3 : Option Addr) (c3 : Nat) (PR PD : Nat → Prop) : Prop where
  r : OwnL 4 hdR lnR AtR X PR a2 (atM ms j).log
  n : OwnN X PD a3 (atM ms j).cleared
  e2 : X.cell? ⟨b, j * 4 + 2, none⟩ = some (.slice a2 (atM ms j).log.length c2)
  e3 : X.cell? ⟨b, j * 4 + 3, none⟩ = some (.slice a3 (atM ms j).cleared.length c3)
  rest : KMk.Rest X B b ms.length ms g (j + 1)
  kp : KeptP P w X
  lt : b < X.heap.size
set_option maxRecDepth 100000 in
set_option maxHeartbeats 4000000 in
theorem markMs (w : World) (B b cap : Nat) (ms : List M4) (g : Nat → Nat → Prop) (P : Nat → Prop) (k : Int) (hk : 0 ≤ k) (hk' : k + (offG cM ms ms.length : Int) ≤ 100000000) (hn : ms.length ≤ 1048576) (ht : ∀ m ∈ ms, MT m) (hb : b < w.heap.size) (hPb : P b) (hPg : ∀ i q, i < ms.length → g i q → P q) (h : KMk.Part w B b ms.length ms g) :
    Calls Tryz.prog 57 #[.slice (some ⟨b, 0, none⟩) ms.length cap, .int .i64 k] w fun e w' => e = .returned (.int .i64 (k + (offG cM ms ms.length : Int))) ∧ KeptP P w w' := by
  have H : Hid ((∀ m ∈ ms, MT m) ∧ b < w.heap.size ∧ P b ∧ (∀ i q, i < ms.length → g i q → P q) ∧ KMk.Part w B b ms.length ms g) := ⟨ht, hb, hPb, hPg, h⟩
  clear ht hb hPb hPg h
  go_enter Tryz.func57, Tryz.ntmps57
  go_wp2
  go_loopw [1, 5] (fun v1 v5 wr => ∃ j : Nat, j ≤ ms.length ∧ v5 = .int .i64 j ∧ v1 = .int .i64 (k + (offG cM ms j : Int)) ∧ KeptP P w wr ∧ KMk.Rest wr B b ms.length ms g j) (fun _ v5 _ => ms.length - (intOf v5).toNat)
  case atStart => exact ⟨0, Nat.zero_le _, rfl, by rw [offG_zero]; simp, KeptP.refl _ _, H.out.2.2.2.2.rest⟩
  case round =>
    obtain ⟨j, hj, rfl, rfl, hkp, hrs⟩ := hrel
    have hb2 := offG_le cM ms j
    by_cases hlt : j < ms.length
    · have hd := atM_of hlt
      obtain ⟨⟨m0, m1, m2, m3, m4, m5⟩, hat, how⟩ := hrs.at_ j _ (Nat.le_refl _) hd
      obtain ⟨PK, PR, PD, om, hsub, hbd⟩ := how
      obtain ⟨z0, d0, f0⟩ : ∃ v, wr.cell? ⟨b, j * 4, none⟩ = some v ∧ wr.frozen? ⟨b, j * 4, none⟩ = false := hrs.rm (j * 4) (show _ < ms.length * 4 by omega)
      have e1 : wr.cell? ⟨b, j * 4 + 1, none⟩ = some (.slice m0 (atM ms j).copies.length m1) := hat 1 _ rfl
      have e2 : wr.cell? ⟨b, j * 4 + 2, none⟩ = some (.slice m2 (atM ms j).log.length m3) := hat 2 _ rfl
      have e3 : wr.cell? ⟨b, j * 4 + 3, none⟩ = some (.slice m4 (atM ms j).cleared.length m5) := hat 3 _ rfl
      have hT := H.out.1 _ (List.mem_of_getElem? hd)
      have hoff : offG cM ms (j + 1) = offG cM ms j + cM (atM ms j) := offG_succ cM hd
      have hle := offG_le cM ms (j + 1)
      have HO : Hid (offG cM ms (j + 1) = offG cM ms j + (1 + (offG cK (atM ms j).copies (atM ms j).copies.length + offG cR (atM ms j).log (atM ms j).log.length + (atM ms j).cleared.length)) ∧ k + (offG cM ms (j + 1) : Int) ≤ 100000000) := ⟨hoff, by omega⟩
      have hnb : ∀ q, g j q → q ≠ b := fun q hq => hrs.ne j q hlt hq
      have bl : b < wr.heap.size := Nat.lt_of_lt_of_le H.out.2.1 hkp.size
      have S1 : Hid (∀ u : Value, OwnL 2 hdK lnK AtK (wr.setCell ⟨b, j * 4, none⟩ u) PK m0 (atM ms j).copies ∧ MRow w (wr.setCell ⟨b, j * 4, none⟩ u) B b ms g P j m2 m3 m4 m5 PR PD) := fun u => by
        have hsz : wr.heap.size ≤ (wr.setCell ⟨b, j * 4, none⟩ u).heap.size := by simp [World.setCell]
        exact ⟨om.k.keep AtK.of_block hsz (fun q _ hp => Below.heap_setCell _ _ _ _ (hnb q (hsub q (.inl hp)))), om.r.keep AtR.of_block hsz (fun q _ hp => Below.heap_setCell _ _ _ _ (hnb q (hsub q (.inr (.inl hp))))), om.n.keep hsz (fun q _ hp => Below.heap_setCell _ _ _ _ (hnb q (hsub q (.inr (.inr hp))))),
          (cell_set_other (by omega)).trans e2, (cell_set_other (by omega)).trans e3, hrs.up.set (show j * 4 < (j + 1) * 4 by omega) u, hkp.trans (KeptP.of_set wr u H.out.2.2.1), Nat.lt_of_lt_of_le bl hsz⟩
      have HG : Hid ((∀ q, PK q → g j q) ∧ (∀ q, PR q → g j q) ∧ (∀ q, PD q → g j q) ∧ (∀ q, PK q → ¬ PR q) ∧ (∀ q, PK q → ¬ PD q) ∧ (∀ q, PR q → ¬ PD q) ∧ (∀ q, g j q → q ≠ b) ∧ (∀ q, g j q → P q)) := ⟨fun q hq => hsub q (.inl hq), fun q hq => hsub q (.inr (.inl hq)), fun q hq => hsub q (.inr (.inr hq)), om.kr, om.kd, om.rd, hnb, fun q hq => H.out.2.2.2.1 j q hlt hq⟩
      have S2 : Hid (∀ u w1, KeptP PK (wr.setCell ⟨b, j * 4, none⟩ u) w1 → MRow w w1 B b ms g P j m2 m3 m4 m5 PR PD) := fun u w1 k1 => by
        have R0 := (S1.out u).2
        have hbk := k1.block b R0.lt (fun e => HG.out.2.2.2.2.2.2.1 b (HG.out.1 b e) rfl)
        exact ⟨R0.r.keep AtR.of_block k1.size (fun q hq hp => k1.block q hq (fun e => HG.out.2.2.2.1 q e hp)), R0.n.keep k1.size (fun q hq hp => k1.block q hq (fun e => HG.out.2.2.2.2.1 q e hp)), (World.cell?_of_block (a := ⟨b, j * 4 + 2, none⟩) hbk).trans R0.e2, (World.cell?_of_block (a := ⟨b, j * 4 + 3, none⟩) hbk).trans R0.e3, R0.rest.kept k1 R0.lt hlt HG.out.1, R0.kp.trans (k1.mono (fun q hq => HG.out.2.2.2.2.2.2.2 q (HG.out.1 q hq))), Nat.lt_of_lt_of_le R0.lt k1.size⟩
      have HT : Hid (MT (atM ms j)) := hT
      have jn : (j : Int) < (ms.length : Int) := by omega
      have g0 : 0 ≤ k + (offG cM ms j : Int) := by omega
      have g1 : k + (offG cM ms j : Int) ≤ 100000000 := by omega
      clear hkp hrs hat om hsub hbd hd hoff hle hnb hT bl e2 e3 hb2
      generalize hK : k + (offG cM ms j : Int) = kj at *
      go_wp2_with fail
      refine (markK _ PK m0 m1 (atM ms j).copies (kj + 1) (by omega) (by omega) HT.out.tk HT.out.k HT.out.ks (S1.out _).1).mono ?_
      rintro e w1 ⟨rfl, k1, -⟩
      have R1 : Hid (MRow w w1 B b ms g P j m2 m3 m4 m5 PR PD) := S2.out _ _ k1
      clear k1 S1 S2 d0 f0 e1
      have e2 := R1.out.e2
      have tk := HT.out.tk
      have tr := HT.out.tr
      have tn := HT.out.n
      go_wp2_with fail
      refine (markR w1 PR m2 m3 (atM ms j).log _ (by omega) (by omega) HT.out.tr HT.out.r HT.out.rs R1.out.r).mono ?_
      rintro e w2 ⟨rfl, k2, -⟩
      have R2 : Hid (OwnN w2 PD m4 (atM ms j).cleared ∧ w2.cell? ⟨b, j * 4 + 3, none⟩ = some (.slice m4 (atM ms j).cleared.length m5) ∧ KMk.Rest w2 B b ms.length ms g (j + 1) ∧ KeptP P w w2 ∧ b < w2.heap.size) := by
        have R0 := R1.out
        have hbk := k2.block b R0.lt (fun e => HG.out.2.2.2.2.2.2.1 b (HG.out.2.1 b e) rfl)
        exact ⟨R0.n.keep k2.size (fun q hq hp => k2.block q hq (fun e => HG.out.2.2.2.2.2.1 q e hp)), (World.cell?_of_block (a := ⟨b, j * 4 + 3, none⟩) hbk).trans R0.e3, R0.rest.kept k2 R0.lt hlt HG.out.2.1, R0.kp.trans (k2.mono (fun q hq => HG.out.2.2.2.2.2.2.2 q (HG.out.2.1 q hq))), Nat.lt_of_lt_of_le R0.lt k2.size⟩
      clear k2 R1 e2
      have e3 := R2.out.2.1
      go_wp2_with fail
      refine (markN w2 PD m4 m5 (atM ms j).cleared _ (by omega) (by omega) HT.out.n R2.out.1).mono ?_
      rintro e w3 ⟨rfl, k3, -⟩
      have R3 : Hid (KMk.Rest w3 B b ms.length ms g (j + 1) ∧ KeptP P w w3) := ⟨R2.out.2.2.1.kept k3 R2.out.2.2.2.2 hlt HG.out.2.2.1, R2.out.2.2.2.1.trans (k3.mono (fun q hq => HG.out.2.2.2.2.2.2.2 q (HG.out.2.2.1 q hq)))⟩
      clear k3 R2 e3
      go_wp2
      exact ⟨⟨j + 1, by omega, by simp, by have := HO.out.1; rw [this]; congr 1; omega, R3.out.2, R3.out.1⟩, by simp [intOf]; omega⟩
    · obtain rfl : j = ms.length := by omega
      have hd : decide ((ms.length : Int) < (ms.length : Int)) = false := by simp
      have KH : Hid (KeptP P w wr) := hkp
      clear hkp hrs
      go_wp2
      go_ret
      exact ⟨rfl, KH.out⟩
end Go.Proofs.YtalmflikdnflfaaGreat
