import Derived.Test.YtcbfnajpcaipkaaRows
import Derived.Test.YtcbfnajpcaipkaaJ25ExactNewCluster
import Derived.Test.YtcbfnajpcaipkaaJ22ExactNewCluster
import Derived.WalkKit
import Derived.WalkSpells
import Derived.WalkLawsBesides
import Derived.Below
import Derived.Lib.QuietBelow
import Derived.BigQuiet
import Derived.Deep.CutRange
namespace Go.Proofs.Ytcbfnajpcaipkaa
open Go.RowKit
open Go.Sort (grow)
def Kd.Done {D V : Type} (K : Kd D V) (X : World) (B b : Nat) (ys : List D) (g : Nat → Nat → Prop) (f : Nat → D) (j : Nat) : Prop := ∀ i, i < j → i < ys.length → ∃ v, At X b (i * K.n) (K.cells v (f i)) ∧ K.Ow X B v (f i) (g i)
theorem Kd.Done.set {D V : Type} {K : Kd D V} {X : World} {B b : Nat} {ys : List D} {g : Nat → Nat → Prop} {f : Nat → D} {j o : Nat} (h : K.Done X B b ys g f j) (hne : ∀ i q, i < ys.length → g i q → q ≠ b) (ho : j * K.n ≤ o) (u : Value) : K.Done (X.setCell ⟨b, o, none⟩ u) B b ys g f j := fun i hi hl => by
  obtain ⟨v, h1, h2⟩ := h i hi hl
  have hm := Nat.mul_le_mul_right K.n (Nat.succ_le_of_lt hi)
  rw [Nat.succ_mul] at hm
  exact ⟨v, fun q u' e => by
    have hq := (List.getElem?_eq_some_iff.1 e).1
    rw [K.len] at hq
    exact (cell_set_other (by omega)).trans (h1 q u' e), K.keep h2 (by simp [World.setCell]) (fun q hq => Below.heap_setCell _ _ _ _ (hne i q hl hq))⟩
theorem Kd.Done.kept {D V : Type} {K : Kd D V} {X Y : World} {B b : Nat} {ys : List D} {g : Nat → Nat → Prop} {f : Nat → D} {j : Nat} {Q : Nat → Prop} (h : K.Done X B b ys g f j) (hne : ∀ i q, i < ys.length → g i q → q ≠ b) (hap : ∀ i j q, i < ys.length → j < ys.length → i ≠ j → g i q → ¬ g j q) (hk : KeptP Q X Y) (hb : b < X.heap.size) (hj : j < ys.length) (hQ : ∀ q, Q q → g j q) : K.Done Y B b ys g f j := fun i hi hl => by
  obtain ⟨v, h1, h2⟩ := h i hi hl
  have hbb : Y.heap[b]? = X.heap[b]? := hk.block b hb (fun e => hne j b hj (hQ b e) rfl)
  exact ⟨v, h1.of_block hbb, K.keep h2 hk.size (fun q hq => hk.block q (K.of h2 hq).2 (fun e => hap i j q hl hj (by omega) hq (hQ q e)))⟩
theorem Kd.Done.step {D V : Type} {K : Kd D V} {X : World} {B b : Nat} {ys : List D} {g : Nat → Nat → Prop} {f : Nat → D} {j : Nat} (h : K.Done X B b ys g f j) (v : V) (h1 : At X b (j * K.n) (K.cells v (f j))) (h2 : K.Ow X B v (f j) (g j)) : K.Done X B b ys g f (j + 1) := fun i hi hl => by
  by_cases e : i = j
  · subst e; exact ⟨v, h1, h2⟩
  · exact h i (by omega) hl
theorem Kd.Done.part {D V : Type} {K : Kd D V} {X : World} {B b : Nat} {ys : List D} {g : Nat → Nat → Prop} {f : Nat → D} (h : K.Done X B b ys g f ys.length) (hr : K.Rest X B b ys.length ys g ys.length) : K.Part X B b ys.length ((List.range ys.length).map f) g := by
  refine ⟨hr.rm, fun i d hi => ?_, fun i q hi => hr.ne i q (by simpa using hi), fun i j q hi hj => hr.ap i j q (by simpa using hi) (by simpa using hj)⟩
  have hl : i < ys.length := by have := (List.getElem?_eq_some_iff.1 hi).1; simpa using this
  simp [hl] at hi
  subst hi
  exact h i hl hl
def mkMi (ms : List M4) (k : Int) (i : Nat) : M4 := ⟨(k + offG cM ms i) % 3 == 0, mkKs (atM ms i).copies (k + offG cM ms i + 1), mkRs (atM ms i).log (k + offG cM ms i + 1 + offG cK (atM ms i).copies (atM ms i).copies.length), marks (atM ms i).cleared.length (k + offG cM ms i + 1 + offG cK (atM ms i).copies (atM ms i).copies.length + offG cR (atM ms i).log (atM ms i).log.length)⟩
def mkMs (ms : List M4) (k : Int) : List M4 := (List.range ms.length).map (mkMi ms k)
theorem mkMs_len (ms : List M4) (k : Int) : (mkMs ms k).length = ms.length := by simp [mkMs]
theorem mkMs_at {ms : List M4} {k : Int} {j : Nat} (h : j < ms.length) : (mkMs ms k)[j]? = some (mkMi ms k j) := by simp [mkMs, h]
structure MRn (w X : World) (B b : Nat) (ms : List M4) (g : Nat → Nat → Prop) (P : Nat → Prop) (f : Nat → M4) (j : Nat) (x : Bool) (a1 : Option Addr) (c1 : Nat) (a2 : Option Addr) (c2 : Nat) (a3 : Option Addr) (c3 : Nat) (ks : List K2) (rs : List R4) (zs : List Int) (PK PR PD : Nat → Prop) : Prop where
  k : OwnL 2 hdK lnK AtK X PK a1 ks
  r : OwnL 4 hdR lnR AtR X PR a2 rs
  n : OwnN X PD a3 zs
  at_ : At X b (j * 4) [.bool x, .slice a1 ks.length c1, .slice a2 rs.length c2, .slice a3 zs.length c3]
  rest : KMk.Rest X B b ms.length ms g (j + 1)
  done : KMk.Done X B b ms g f j
  kp : KeptP P w X
  lt : b < X.heap.size
theorem MRn.step {w X Y : World} {B b : Nat} {ms : List M4} {g : Nat → Nat → Prop} {P : Nat → Prop} {f : Nat → M4} {j : Nat} {x : Bool} {a1 : Option Addr} {c1 : Nat} {a2 : Option Addr} {c2 : Nat} {a3 : Option Addr} {c3 : Nat} {ks ks' : List K2} {rs rs' : List R4} {zs zs' : List Int} {PK PR PD Q : Nat → Prop} (h : MRn w X B b ms g P f j x a1 c1 a2 c2 a3 c3 ks rs zs PK PR PD) (hj : j < ms.length) (hk : KeptP Q X Y) (hQ : ∀ q, Q q → g j q) (hP : ∀ q, g j q → P q) (k' : OwnL 2 hdK lnK AtK Y PK a1 ks') (lk : ks'.length = ks.length) (r' : OwnL 4 hdR lnR AtR Y PR a2 rs') (lr : rs'.length = rs.length) (n' : OwnN Y PD a3 zs') (lz : zs'.length = zs.length) : MRn w Y B b ms g P f j x a1 c1 a2 c2 a3 c3 ks' rs' zs' PK PR PD := by
  have hbk := hk.block b h.lt (fun e => h.rest.ne j b hj (hQ b e) rfl)
  refine ⟨k', r', n', ?_, h.rest.kept hk h.lt hj hQ, h.done.kept h.rest.ne h.rest.ap hk h.lt hj hQ, h.kp.trans (hk.mono (fun q hq => hP q (hQ q hq))), Nat.lt_of_lt_of_le h.lt hk.size⟩
  rw [lk, lr, lz]
  exact h.at_.of_block hbk
set_option maxRecDepth 100000 in
set_option maxHeartbeats 4000000 in
theorem markMn (w : World) (B b cap : Nat) (ms : List M4) (g : Nat → Nat → Prop) (P : Nat → Prop) (k : Int) (hk : 0 ≤ k) (hk' : k + (offG cM ms ms.length : Int) ≤ 100000000) (hn : ms.length ≤ 1048576) (ht : ∀ m ∈ ms, MT m) (hb : b < w.heap.size) (hPb : P b) (hPg : ∀ i q, i < ms.length → g i q → P q) (h : KMk.Part w B b ms.length ms g) :
    Calls Try.prog 36 #[.slice (some ⟨b, 0, none⟩) ms.length cap, .int .i64 k] w fun e w' => e = .returned (.int .i64 (k + (offG cM ms ms.length : Int))) ∧ KeptP P w w' ∧ KMk.Part w' B b ms.length (mkMs ms k) g := by
  have H : Hid ((∀ m ∈ ms, MT m) ∧ b < w.heap.size ∧ P b ∧ (∀ i q, i < ms.length → g i q → P q) ∧ KMk.Part w B b ms.length ms g) := ⟨ht, hb, hPb, hPg, h⟩
  clear ht hb hPb hPg h
  go_enter Try.func36, Try.ntmps36
  go_wp2
  go_loopw [1, 5] (fun v1 v5 wr => ∃ j : Nat, j ≤ ms.length ∧ v5 = .int .i64 j ∧ v1 = .int .i64 (k + (offG cM ms j : Int)) ∧ KeptP P w wr ∧ KMk.Rest wr B b ms.length ms g j ∧ KMk.Done wr B b ms g (mkMi ms k) j) (fun _ v5 _ => ms.length - (intOf v5).toNat)
  case atStart => exact ⟨0, Nat.zero_le _, rfl, by rw [offG_zero]; simp, KeptP.refl _ _, H.out.2.2.2.2.rest, fun i hi => absurd hi (Nat.not_lt_zero i)⟩
  case round =>
    obtain ⟨j, hj, rfl, rfl, hkp, hrs, hdn⟩ := hrel
    have hb2 := offG_le cM ms j
    by_cases hlt : j < ms.length
    · have hd := atM_of hlt
      obtain ⟨⟨m0, m1, m2, m3, m4, m5⟩, hat, how⟩ := hrs.at_ j _ (Nat.le_refl _) hd
      obtain ⟨PK, PR, PD, om, hsub, hbd⟩ := how
      obtain ⟨z0, d0, f0⟩ : ∃ v, wr.cell? ⟨b, j * 4, none⟩ = some v ∧ wr.frozen? ⟨b, j * 4, none⟩ = false := hrs.rm (j * 4) (show _ < ms.length * 4 by omega)
      have e1 : wr.cell? ⟨b, j * 4 + 1, none⟩ = some (.slice m0 (atM ms j).copies.length m1) := hat 1 _ rfl
      have e2 : wr.cell? ⟨b, j * 4 + 2, none⟩ = some (.slice m2 (atM ms j).log.length m3) := hat 2 _ rfl
      have e3 : wr.cell? ⟨b, j * 4 + 3, none⟩ = some (.slice m4 (atM ms j).cleared.length m5) := hat 3 _ rfl
      have hT := H.out.1 _ (List.mem_of_getElem? hd)
      have hoff : offG cM ms (j + 1) = offG cM ms j + cM (atM ms j) := offG_succ cM hd
      have hle := offG_le cM ms (j + 1)
      have HO : Hid (offG cM ms (j + 1) = offG cM ms j + (1 + (offG cK (atM ms j).copies (atM ms j).copies.length + offG cR (atM ms j).log (atM ms j).log.length + (atM ms j).cleared.length)) ∧ k + (offG cM ms (j + 1) : Int) ≤ 100000000) := ⟨hoff, by omega⟩
      have hnb : ∀ q, g j q → q ≠ b := fun q hq => hrs.ne j q hlt hq
      have bl : b < wr.heap.size := Nat.lt_of_lt_of_le H.out.2.1 hkp.size
      obtain ⟨V, hV⟩ : ∃ V, V = wr.setCell ⟨b, j * 4, none⟩ (.bool ((k + (offG cM ms j : Int)) % 3 == 0)) := ⟨_, rfl⟩
      have S1 : Hid (MRn w V B b ms g P (mkMi ms k) j ((k + (offG cM ms j : Int)) % 3 == 0) m0 m1 m2 m3 m4 m5 (atM ms j).copies (atM ms j).log (atM ms j).cleared PK PR PD) := by
        rw [hV]
        have hsz : wr.heap.size ≤ (wr.setCell ⟨b, j * 4, none⟩ (.bool ((k + (offG cM ms j : Int)) % 3 == 0))).heap.size := by simp [World.setCell]
        refine ⟨om.k.keep AtK.of_block hsz (fun q _ hp => Below.heap_setCell _ _ _ _ (hnb q (hsub q (.inl hp)))), om.r.keep AtR.of_block hsz (fun q _ hp => Below.heap_setCell _ _ _ _ (hnb q (hsub q (.inr (.inl hp))))), om.n.keep hsz (fun q _ hp => Below.heap_setCell _ _ _ _ (hnb q (hsub q (.inr (.inr hp))))),
          ?_, hrs.up.set (show j * 4 < (j + 1) * 4 by omega) _, hdn.set hrs.ne (show j * 4 ≤ j * 4 by omega) _, hkp.trans (KeptP.of_set wr _ H.out.2.2.1), Nat.lt_of_lt_of_le bl hsz⟩
        intro i u hu
        rcases i with _ | _ | _ | _ | i
        · simp at hu; subst hu; exact cell_set_same d0
        · simp at hu; subst hu; exact (cell_set_other (by omega)).trans e1
        · simp at hu; subst hu; exact (cell_set_other (by omega)).trans e2
        · simp at hu; subst hu; exact (cell_set_other (by omega)).trans e3
        · simp at hu
      have HG : Hid ((∀ q, PK q → g j q) ∧ (∀ q, PR q → g j q) ∧ (∀ q, PD q → g j q) ∧ (∀ q, PK q → ¬ PR q) ∧ (∀ q, PK q → ¬ PD q) ∧ (∀ q, PR q → ¬ PD q) ∧ (∀ q, g j q → P q) ∧ (∀ q, PK q → B ≤ q) ∧ (∀ q, PR q → B ≤ q) ∧ (∀ q, PD q → B ≤ q) ∧ (∀ q, g j q → B ≤ q ∧ q < wr.heap.size) ∧ wr.heap.size ≤ V.heap.size) := ⟨fun q hq => hsub q (.inl hq), fun q hq => hsub q (.inr (.inl hq)), fun q hq => hsub q (.inr (.inr hq)), om.kr, om.kd, om.rd, fun q hq => H.out.2.2.2.1 j q hlt hq, om.kB, om.rB, om.dB, hbd, by rw [hV]; simp [World.setCell]⟩
      have HT : Hid (MT (atM ms j)) := hT
      have jn : (j : Int) < (ms.length : Int) := by omega
      have g0 : 0 ≤ k + (offG cM ms j : Int) := by omega
      have g1 : k + (offG cM ms j : Int) ≤ 100000000 := by omega
      have HI : Hid (mkMi ms k j = ⟨(k + offG cM ms j) % 3 == 0, mkKs (atM ms j).copies (k + offG cM ms j + 1), mkRs (atM ms j).log (k + offG cM ms j + 1 + offG cK (atM ms j).copies (atM ms j).copies.length), marks (atM ms j).cleared.length (k + offG cM ms j + 1 + offG cK (atM ms j).copies (atM ms j).copies.length + offG cR (atM ms j).log (atM ms j).log.length)⟩) := rfl
      clear hkp hrs hdn hat om hsub hbd hd hoff hle hnb hT bl e2 e3 hb2
      generalize hK : k + (offG cM ms j : Int) = kj at *
      go_wp2_with fail
      rw [← hV]
      clear hV
      refine (markK V PK m0 m1 (atM ms j).copies (kj + 1) (by omega) (by omega) HT.out.tk HT.out.k HT.out.ks S1.out.k).mono ?_
      rintro e w1 ⟨rfl, k1, o1⟩
      have R1 : Hid (MRn w w1 B b ms g P (mkMi ms k) j (kj % 3 == 0) m0 m1 m2 m3 m4 m5 (mkKs (atM ms j).copies (kj + 1)) (atM ms j).log (atM ms j).cleared PK PR PD ∧ V.heap.size ≤ w1.heap.size) := ⟨S1.out.step hlt k1 HG.out.1 HG.out.2.2.2.2.2.2.1 o1 (mkKs_len _ _) (S1.out.r.keep AtR.of_block k1.size (fun q hq hp => k1.block q hq (fun e => HG.out.2.2.2.1 q e hp))) rfl (S1.out.n.keep k1.size (fun q hq hp => k1.block q hq (fun e => HG.out.2.2.2.2.1 q e hp))) rfl, k1.size⟩
      clear k1 o1 S1 d0 f0 e1
      have e2 : w1.cell? ⟨b, j * 4 + 2, none⟩ = some (.slice m2 (atM ms j).log.length m3) := R1.out.1.at_ 2 _ rfl
      have tk := HT.out.tk
      have tr := HT.out.tr
      have tn := HT.out.n
      go_wp2_with fail
      refine (markR w1 PR m2 m3 (atM ms j).log _ (by omega) (by omega) HT.out.tr HT.out.r HT.out.rs R1.out.1.r).mono ?_
      rintro e w2 ⟨rfl, k2, o2⟩
      have R2 : Hid (MRn w w2 B b ms g P (mkMi ms k) j (kj % 3 == 0) m0 m1 m2 m3 m4 m5 (mkKs (atM ms j).copies (kj + 1)) (mkRs (atM ms j).log (kj + 1 + offG cK (atM ms j).copies (atM ms j).copies.length)) (atM ms j).cleared PK PR PD ∧ V.heap.size ≤ w2.heap.size) := ⟨R1.out.1.step hlt k2 HG.out.2.1 HG.out.2.2.2.2.2.2.1 (R1.out.1.k.keep AtK.of_block k2.size (fun q hq hp => k2.block q hq (fun e => HG.out.2.2.2.1 q hp e))) rfl o2 (mkRs_len _ _) (R1.out.1.n.keep k2.size (fun q hq hp => k2.block q hq (fun e => HG.out.2.2.2.2.2.1 q e hp))) rfl, Nat.le_trans R1.out.2 k2.size⟩
      clear k2 o2 R1 e2
      have e3 : w2.cell? ⟨b, j * 4 + 3, none⟩ = some (.slice m4 (atM ms j).cleared.length m5) := R2.out.1.at_ 3 _ rfl
      go_wp2_with fail
      refine (markN w2 PD m4 m5 (atM ms j).cleared _ (by omega) (by omega) HT.out.n R2.out.1.n).mono ?_
      rintro e w3 ⟨rfl, k3, o3⟩
      have R3 : Hid (KMk.Rest w3 B b ms.length ms g (j + 1) ∧ KeptP P w w3 ∧ KMk.Done w3 B b ms g (mkMi ms k) (j + 1)) := by
        have R0 := R2.out.1.step hlt k3 HG.out.2.2.1 HG.out.2.2.2.2.2.2.1 (R2.out.1.k.keep AtK.of_block k3.size (fun q hq hp => k3.block q hq (fun e => HG.out.2.2.2.2.1 q hp e))) rfl (R2.out.1.r.keep AtR.of_block k3.size (fun q hq hp => k3.block q hq (fun e => HG.out.2.2.2.2.2.1 q hp e))) rfl o3 (marks_len _ _)
        obtain ⟨h1, h2, h3, h4, h5, h6, h7, h8, h9, h10, h11, h12⟩ := HG.out
        have hsz := Nat.le_trans R2.out.2 k3.size
        refine ⟨R0.rest, R0.kp, R0.done.step ⟨m0, m1, m2, m3, m4, m5⟩ ?_ ?_⟩
        · rw [HI.out]; exact R0.at_
        · rw [HI.out]
          exact ⟨PK, PR, PD, ⟨R0.k, R0.r, R0.n, h4, h5, h6, h8, h9, h10⟩, fun q hq => by rcases hq with hq | hq | hq; exact h1 q hq; exact h2 q hq; exact h3 q hq, fun q hq => ⟨(h11 q hq).1, by have := (h11 q hq).2; omega⟩⟩
      clear k3 o3 R2 e3
      go_wp2
      exact ⟨⟨j + 1, by omega, by simp, by have := HO.out.1; rw [this]; congr 1; omega, R3.out.2.1, R3.out.1, R3.out.2.2⟩, by simp [intOf]; omega⟩
    · obtain rfl : j = ms.length := by omega
      have hd : decide ((ms.length : Int) < (ms.length : Int)) = false := by simp
      have KH : Hid (KeptP P w wr ∧ KMk.Part wr B b ms.length (mkMs ms k) g) := ⟨hkp, hdn.part hrs⟩
      clear hkp hrs hdn
      go_wp2
      go_ret
      exact ⟨rfl, KH.out.1, KH.out.2⟩
set_option maxRecDepth 100000 in
set_option maxHeartbeats 4000000 in
theorem heldMn (w : World) (a : Option Addr) (cap : Nat) (ms : List M4) (k : Int) (hk : 0 ≤ k) (hk' : k + (offG cM ms ms.length : Int) ≤ 100000000) (hn : ms.length ≤ 1048576) (ht : ∀ m ∈ ms, MT m) (h : KMk.RdS w a (mkMs ms k)) :
    Calls Try.prog 38 #[.slice a ms.length cap, .int .i64 k] w fun e w' => e = .returned (.int .i64 (k + (offG cM ms ms.length : Int))) ∧ Below w.heap.size w w' := by
  have H : Hid ((∀ m ∈ ms, MT m) ∧ KMk.RdS w a (mkMs ms k)) := ⟨ht, h⟩
  clear ht h
  go_enter Try.func38, Try.ntmps38
  go_wp2
  go_loopw [1, 5] (fun v1 v5 wr => ∃ j : Nat, j ≤ ms.length ∧ v5 = .int .i64 j ∧ v1 = .int .i64 (k + (offG cM ms j : Int)) ∧ Below w.heap.size w wr) (fun _ v5 _ => ms.length - (intOf v5).toNat)
  case atStart => exact ⟨0, Nat.zero_le _, rfl, by rw [offG_zero]; simp, Below.refl _ _⟩
  case round =>
    obtain ⟨j, hj, rfl, rfl, hbl⟩ := hrel
    have hb2 := offG_le cM ms j
    by_cases hlt : j < ms.length
    · have hd := atM_of hlt
      have hrd := H.out.2.later hbl
      rcases hrd with h0 | ⟨b, off, rfl, hb, hrd⟩
      · have := mkMs_len ms k; rw [h0] at this; simp at this; omega
      obtain ⟨⟨m0, m1, m2, m3, m4, m5⟩, hat, how⟩ := hrd j _ (mkMs_at hlt)
      have e0 : wr.cell? ⟨b, off + j * 4, none⟩ = some (.bool ((k + (offG cM ms j : Int)) % 3 == 0)) := hat 0 _ rfl
      have e1 : wr.cell? ⟨b, off + j * 4 + 1, none⟩ = some (.slice m0 (mkMi ms k j).copies.length m1) := hat 1 _ rfl
      have e2 : wr.cell? ⟨b, off + j * 4 + 2, none⟩ = some (.slice m2 (mkMi ms k j).log.length m3) := hat 2 _ rfl
      have e3 : wr.cell? ⟨b, off + j * 4 + 3, none⟩ = some (.slice m4 (mkMi ms k j).cleared.length m5) := hat 3 _ rfl
      have l1 : (mkMi ms k j).copies.length = (atM ms j).copies.length := mkKs_len _ _
      have l2 : (mkMi ms k j).log.length = (atM ms j).log.length := mkRs_len _ _
      have l3 : (mkMi ms k j).cleared.length = (atM ms j).cleared.length := marks_len _ _
      rw [l1] at e1
      rw [l2] at e2
      rw [l3] at e3
      obtain ⟨sk, sr, sn⟩ := how
      simp only at sk sr sn
      rw [l1] at sk
      rw [l2] at sr
      rw [l3] at sn
      have hT := H.out.1 _ (List.mem_of_getElem? hd)
      have hoff : offG cM ms (j + 1) = offG cM ms j + cM (atM ms j) := offG_succ cM hd
      have hle := offG_le cM ms (j + 1)
      have HO : Hid (offG cM ms (j + 1) = offG cM ms j + (1 + (offG cK (atM ms j).copies (atM ms j).copies.length + offG cR (atM ms j).log (atM ms j).log.length + (atM ms j).cleared.length)) ∧ k + (offG cM ms (j + 1) : Int) ≤ 100000000) := ⟨hoff, by omega⟩
      have S : Hid (Below w.heap.size w wr ∧ SlK wr wr.heap.size m0 (atM ms j).copies.length (mkKs (atM ms j).copies (k + offG cM ms j + 1)) ∧ SlR wr wr.heap.size m2 (atM ms j).log.length (mkRs (atM ms j).log (k + offG cM ms j + 1 + offG cK (atM ms j).copies (atM ms j).copies.length)) ∧ SlN wr wr.heap.size m4 (atM ms j).cleared.length (marks (atM ms j).cleared.length (k + offG cM ms j + 1 + offG cK (atM ms j).copies (atM ms j).copies.length + offG cR (atM ms j).log (atM ms j).log.length)) ∧ b < wr.heap.size) := ⟨hbl, sk, sr, sn, hb⟩
      have HT : Hid (MT (atM ms j)) := hT
      have jn : (j : Int) < (ms.length : Int) := by omega
      have g0 : 0 ≤ k + (offG cM ms j : Int) := by omega
      have g1 : k + (offG cM ms j : Int) ≤ 100000000 := by omega
      clear hbl hrd hat sk sr sn hd hoff hle hT hb l1 l2 l3 hb2
      have tk := HT.out.tk
      have tr := HT.out.tr
      have tn := HT.out.n
      generalize hK : k + (offG cM ms j : Int) = kj at *
      have dx : ((kj % 3 == 0) != (kj % 3 == 0)) = false := by simp
      have d1 : decide (kj + 1 + (offG cK (atM ms j).copies (atM ms j).copies.length : Int) < 0) = false := by simp; omega
      have d2 : decide (kj + 1 + (offG cK (atM ms j).copies (atM ms j).copies.length : Int) + (offG cR (atM ms j).log (atM ms j).log.length : Int) < 0) = false := by simp; omega
      have d3 : decide (kj + 1 + (offG cK (atM ms j).copies (atM ms j).copies.length : Int) + (offG cR (atM ms j).log (atM ms j).log.length : Int) + ((atM ms j).cleared.length : Int) < 0) = false := by simp; omega
      go_wp2_with fail
      refine (heldCopyS_any wr m0 m1 (atM ms j).copies (kj + 1) (by omega) (by omega) HT.out.tk HT.out.k HT.out.ks S.out.2.1).mono ?_
      rintro e w1 ⟨rfl, rfl⟩
      go_wp2_with fail
      refine (heldRecordS_any w1 m2 m3 (atM ms j).log _ (by omega) (by omega) HT.out.tr HT.out.r HT.out.rs S.out.2.2.1).mono ?_
      rintro e w2 ⟨rfl, rfl⟩
      go_wp2_with fail
      refine (heldInt64S_any w2 m4 (atM ms j).cleared.length m5 _ (by omega) (by omega) (by omega) S.out.2.2.2.1).mono ?_
      rintro e w3 ⟨rfl, rfl⟩
      go_wp2
      exact ⟨⟨j + 1, by omega, by simp, by have := HO.out.1; rw [this]; congr 1; omega, S.out.1⟩, by simp [intOf]; omega⟩
    · obtain rfl : j = ms.length := by omega
      have hd : decide ((ms.length : Int) < (ms.length : Int)) = false := by simp
      have KH : Hid (Below w.heap.size w wr) := hbl
      clear hbl
      go_wp2
      go_ret
      exact ⟨rfl, KH.out⟩
end Go.Proofs.Ytcbfnajpcaipkaa
