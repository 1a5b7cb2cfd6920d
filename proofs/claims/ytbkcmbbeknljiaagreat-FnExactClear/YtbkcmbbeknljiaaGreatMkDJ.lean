/- A machine of a call's own, each row in blocks apart; the laws' marks in it. -/
import Derived.Test.YtbkcmbbeknljiaaGreatRows
import Derived.Test.YtbkcmbbeknljiaaGreatMkCJ
import Derived.Test.YtbkcmbbeknljiaaGreatMacEqJ
import Derived.WalkKit
import Derived.WalkSpells
import Derived.WalkLawsBesides
import Derived.Below
namespace Go.Proofs.YtbkcmbbeknljiaaGreat
open Go.RowKit
/-- A row of structs of a call's own in blocks of P: none, or at the head of a block. -/
def OwnL {α : Type} (sz : Nat) (hd : α → List Int) (ln : α → Nat) (At : World → Nat → α → Prop) (w : World) (P : Nat → Prop) (a : Option Addr) (rs : List α) : Prop :=
  rs = [] ∨ ∃ b g, a = some ⟨b, 0, none⟩ ∧ P b ∧ (∀ i, i < rs.length → P (g i)) ∧ b < w.heap.size ∧ Room w b (rs.length * sz) ∧ OwnG sz hd ln At w 0 b rs.length rs g
def OwnN (w : World) (P : Nat → Prop) (a : Option Addr) (zs : List Int) : Prop := zs = [] ∨ ∃ b, a = some ⟨b, 0, none⟩ ∧ P b ∧ b < w.heap.size ∧ NumsAt w b 0 zs ∧ Room w b zs.length
theorem OwnL.keep {α : Type} {sz : Nat} {hd : α → List Int} {ln : α → Nat} {At : World → Nat → α → Prop} (hAt : ∀ (w w' : World) (b : Nat) (r : α), w'.heap[b]? = w.heap[b]? → At w b r → At w' b r) {w w' : World} {P : Nat → Prop} {a : Option Addr} {rs : List α} (h : OwnL sz hd ln At w P a rs) (hs : w.heap.size ≤ w'.heap.size) (hk : ∀ q, q < w.heap.size → P q → w'.heap[q]? = w.heap[q]?) : OwnL sz hd ln At w' P a rs := by
  rcases h with h | ⟨b, g, ha, hp, hg, hl, hr, ho⟩
  · exact .inl h
  · exact .inr ⟨b, g, ha, hp, hg, Nat.lt_of_lt_of_le hl hs, hr.of_block (hk b hl hp), ho.of_blocks hAt hs (hk b hl hp) (fun i hi => hk _ (ho.lt i hi) (hg i hi))⟩
theorem OwnN.keep {w w' : World} {P : Nat → Prop} {a : Option Addr} {zs : List Int} (h : OwnN w P a zs) (hs : w.heap.size ≤ w'.heap.size) (hk : ∀ q, q < w.heap.size → P q → w'.heap[q]? = w.heap[q]?) : OwnN w' P a zs := by
  rcases h with h | ⟨b, ha, hp, hl, hn, hr⟩
  · exact .inl h
  · exact .inr ⟨b, ha, hp, Nat.lt_of_lt_of_le hl hs, hn.of_block (hk b hl hp), hr.of_block (hk b hl hp)⟩
/-- The machine of value v owns its three rows: in blocks of PK, PR and PD, all apart and none below B. -/
structure OM (w : World) (B : Nat) (v : MV) (m : M4) (PK PR PD : Nat → Prop) : Prop where
  k : OwnL 2 hdK lnK AtK w PK v.ac m.copies
  r : OwnL 4 hdR lnR AtR w PR v.al m.log
  n : OwnN w PD v.ad m.cleared
  kr : ∀ q, PK q → ¬ PR q
  kd : ∀ q, PK q → ¬ PD q
  rd : ∀ q, PR q → ¬ PD q
  kB : ∀ q, PK q → B ≤ q
  rB : ∀ q, PR q → B ≤ q
  dB : ∀ q, PD q → B ≤ q
theorem OM.sl {w : World} {B : Nat} {v : MV} {m : M4} {PK PR PD : Nat → Prop} (h : OM w B v m PK PR PD) : SlM w v m := by
  refine ⟨?_, ?_, ?_⟩
  · rcases h.k with e | ⟨b, g, ha, _, _, hl, _, ho⟩
    · exact ⟨rfl, .inl (by rw [e]; rfl)⟩
    · rw [ha]; exact ownK_sl ho hl
  · rcases h.r with e | ⟨b, g, ha, _, _, hl, _, ho⟩
    · exact ⟨rfl, .inl (by rw [e]; rfl)⟩
    · rw [ha]; exact ownR_sl ho hl
  · rcases h.n with e | ⟨b, ha, _, hl, hn, _⟩
    · exact ⟨rfl, .inl (by rw [e]; rfl)⟩
    · exact ⟨rfl, .inr ⟨b, 0, ha, hl, hn⟩⟩
def OfM (PK PR PD : Nat → Prop) (q : Nat) : Prop := PK q ∨ PR q ∨ PD q
theorem OM.keep {w w' : World} {B : Nat} {v : MV} {m : M4} {PK PR PD : Nat → Prop} (h : OM w B v m PK PR PD) (hs : w.heap.size ≤ w'.heap.size) (hk : ∀ q, q < w.heap.size → OfM PK PR PD q → w'.heap[q]? = w.heap[q]?) : OM w' B v m PK PR PD :=
  ⟨h.k.keep AtK.of_block hs (fun q hq hp => hk q hq (.inl hp)), h.r.keep AtR.of_block hs (fun q hq hp => hk q hq (.inr (.inl hp))), h.n.keep hs (fun q hq hp => hk q hq (.inr (.inr hp))), h.kr, h.kd, h.rd, h.kB, h.rB, h.dB⟩
theorem OM.later {w w' : World} {B : Nat} {v : MV} {m : M4} {PK PR PD : Nat → Prop} (h : OM w B v m PK PR PD) (hb : Below w.heap.size w w') : OM w' B v m PK PR PD := h.keep hb.size (fun q hq _ => hb.block q hq)
theorem OwnG.base {α : Type} {sz : Nat} {hd : α → List Int} {ln : α → Nat} {At : World → Nat → α → Prop} {w : World} {base b n : Nat} {rs : List α} {g : Nat → Nat} (h : OwnG sz hd ln At w base b n rs g) : OwnG sz hd ln At w 0 b n rs g := ⟨h.len, h.head, h.tail, fun _ _ => Nat.zero_le _, h.lt, h.ne, h.sub, h.inj⟩
theorem OwnM.om {w : World} {B0 B1 B2 B3 : Nat} {v : MV} {m : M4} {gk gr : Nat → Nat} (h : OwnM w B0 B1 B2 B3 v m gk gr) : OM w B0 v m (fun q => B0 ≤ q ∧ q < B1) (fun q => B1 ≤ q ∧ q < B2) (fun q => B2 ≤ q ∧ q < B3) := by
  have h1 := h.o1; have h2 := h.o2; have h3 := h.o3; have h4 := h.sz
  obtain ⟨b, e, l1, l, o, og, rm⟩ := h.k
  obtain ⟨b', e', l1', l', o', og', rm'⟩ := h.r
  obtain ⟨b'', e'', l1'', l'', o'', rm''⟩ := h.n
  exact ⟨.inr ⟨b, gk, e, ⟨l1, l⟩, fun i hi => ⟨o.low i hi, og i hi⟩, by omega, rm, o.base⟩, .inr ⟨b', gr, e', ⟨l1', l'⟩, fun i hi => ⟨o'.low i hi, og' i hi⟩, by omega, rm', o'.base⟩, .inr ⟨b'', e'', ⟨l1'', l''⟩, by omega, o'', rm''⟩,
    fun q hq hr => by omega, fun q hq hr => by omega, fun q hq hr => by omega, fun q hq => hq.1, fun q hq => by omega, fun q hq => by omega⟩
/-- Lengths that the laws' marks can count. -/
structure MT (m : M4) : Prop where
  k : m.copies.length ≤ 1048576
  ks : ∀ c ∈ m.copies, c.cells.length ≤ 1048576
  r : m.log.length ≤ 1048576
  rs : ∀ c ∈ m.log, c.sets.length ≤ 1048576
  n : m.cleared.length ≤ 1048576
  tk : offG cK m.copies m.copies.length ≤ 100000000
  tr : offG cR m.log m.log.length ≤ 100000000
theorem off_sum {α : Type} (c l : α → Nat) (a b : Nat) (h : ∀ r, c r = a + b * l r) (rs : List α) : offG c rs rs.length = a * rs.length + b * (rs.map l).sum := by
  unfold offG
  rw [List.take_of_length_le (by simp)]
  induction rs with
  | nil => simp
  | cons r rs ih =>
    simp only [List.map_cons, List.sum_cons, List.length_cons, ih, h, Nat.mul_add, Nat.mul_one]
    omega
theorem MT.of_sz {m : M4} (h : szM m ≤ 1048576) : MT m := by
  have hk := off_sum cK (fun k => k.cells.length) 1 2 (fun _ => rfl) m.copies
  have hr := off_sum cR (fun r => r.sets.length) 3 5 (fun _ => rfl) m.log
  unfold szM lensK lensR at h
  refine ⟨by omega, fun c hc => ?_, by omega, fun c hc => ?_, by omega, by rw [hk]; omega, by rw [hr]; omega⟩
  · have : c.cells.length ≤ (m.copies.map fun k => k.cells.length).sum := sum_mem (List.mem_map.2 ⟨c, hc, rfl⟩)
    omega
  · have : c.sets.length ≤ (m.log.map fun k => k.sets.length).sum := sum_mem (List.mem_map.2 ⟨c, hc, rfl⟩)
    omega
def endK (m : M4) (k : Int) : Int := k + offG cK m.copies m.copies.length
def endR (m : M4) (k : Int) : Int := endK m k + offG cR m.log m.log.length
def endM (m : M4) (k : Int) : Int := endR m k + m.cleared.length
def mkM (m : M4) (k : Int) : M4 := ⟨m.alive, mkKs m.copies k, mkRs m.log (endK m k), marks m.cleared.length (endR m k)⟩
theorem mkKs_len (ks : List K2) (k : Int) : (mkKs ks k).length = ks.length := by simp [mkKs]
theorem mkRs_len (ks : List R4) (k : Int) : (mkRs ks k).length = ks.length := by simp [mkRs]
theorem mkM_val (v : MV) (m : M4) (k : Int) : v.val (mkM m k) = v.val m := by simp [MV.val, mkM, mkKs_len, mkRs_len, marks_len]
theorem markK (w : World) (P : Nat → Prop) (a : Option Addr) (cap : Nat) (ks : List K2) (k : Int) (hk : 0 ≤ k) (hk' : k ≤ 500000000) (ht : offG cK ks ks.length ≤ 100000000) (hn : ks.length ≤ 1048576) (hl : ∀ c ∈ ks, c.cells.length ≤ 1048576) (h : OwnL 2 hdK lnK AtK w P a ks) :
    Calls Tryz.prog 88 #[.slice a ks.length cap, .int .i64 k] w fun e w' => e = .returned (.int .i64 (k + offG cK ks ks.length)) ∧ KeptP P w w' ∧ OwnL 2 hdK lnK AtK w' P a (mkKs ks k) := by
  rcases h with rfl | ⟨b, g, rfl, hp, hg, hb, hr, ho⟩
  · refine (markCopyS_nil w a cap k).mono ?_
    rintro e w' ⟨rfl, rfl⟩
    exact ⟨by simp [offG], KeptP.refl _ _, .inl rfl⟩
  · refine (markCopyS_own w b ks.length cap ks g k hk hk' ht hn hl hb hr ho).mono ?_
    rintro e w' ⟨rfl, hkp, ho', hr'⟩
    refine ⟨rfl, hkp.mono ?_, .inr ⟨b, g, rfl, hp, by rw [mkKs_len]; exact hg, Nat.lt_of_lt_of_le hb hkp.size, by rw [mkKs_len]; exact hr', by rw [mkKs_len]; exact ho'⟩⟩
    rintro q (rfl | ⟨i, hi, rfl⟩)
    · exact hp
    · exact hg i hi
theorem markR (w : World) (P : Nat → Prop) (a : Option Addr) (cap : Nat) (ks : List R4) (k : Int) (hk : 0 ≤ k) (hk' : k ≤ 500000000) (ht : offG cR ks ks.length ≤ 100000000) (hn : ks.length ≤ 1048576) (hl : ∀ c ∈ ks, c.sets.length ≤ 1048576) (h : OwnL 4 hdR lnR AtR w P a ks) :
    Calls Tryz.prog 89 #[.slice a ks.length cap, .int .i64 k] w fun e w' => e = .returned (.int .i64 (k + offG cR ks ks.length)) ∧ KeptP P w w' ∧ OwnL 4 hdR lnR AtR w' P a (mkRs ks k) := by
  rcases h with rfl | ⟨b, g, rfl, hp, hg, hb, hr, ho⟩
  · refine (markRecordS_nil w a cap k).mono ?_
    rintro e w' ⟨rfl, rfl⟩
    exact ⟨by simp [offG], KeptP.refl _ _, .inl rfl⟩
  · refine (markRecordS_own w b ks.length cap ks g k hk hk' ht hn hl hb hr ho).mono ?_
    rintro e w' ⟨rfl, hkp, ho', hr'⟩
    refine ⟨rfl, hkp.mono ?_, .inr ⟨b, g, rfl, hp, by rw [mkRs_len]; exact hg, Nat.lt_of_lt_of_le hb hkp.size, by rw [mkRs_len]; exact hr', by rw [mkRs_len]; exact ho'⟩⟩
    rintro q (rfl | ⟨i, hi, rfl⟩)
    · exact hp
    · exact hg i hi
theorem markN (w : World) (P : Nat → Prop) (a : Option Addr) (cap : Nat) (zs : List Int) (k : Int) (hk : 0 ≤ k) (hk' : k ≤ 1000000000) (hn : zs.length ≤ 1048576) (h : OwnN w P a zs) :
    Calls Tryz.prog 90 #[.slice a zs.length cap, .int .i64 k] w fun e w' => e = .returned (.int .i64 (k + zs.length)) ∧ KeptP P w w' ∧ OwnN w' P a (marks zs.length k) := by
  rcases h with rfl | ⟨b, rfl, hp, hb, hx, hr⟩
  · refine (markInt64S_none w a cap k).mono ?_
    rintro e w' ⟨rfl, rfl⟩
    exact ⟨by simp, KeptP.refl _ _, .inl rfl⟩
  · refine (markInt64S_own w b zs.length cap k hn hk hk' hr).mono ?_
    rintro e w' ⟨rfl, ho, hx', hr'⟩
    exact ⟨rfl, KeptP.of_only ho hp, .inr ⟨b, rfl, hp, by rw [ho.size]; exact hb, hx', by rw [marks_len]; exact hr'⟩⟩
end Go.Proofs.YtbkcmbbeknljiaaGreat
