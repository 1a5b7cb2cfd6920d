/- MkD; ToM; KdM0; MacSl; KdMk: joined. -/
import Derived.Test.YtalmflikdnflfaaGreatRows
import Derived.Test.YtalmflikdnflfaaGreatMkCJ
import Derived.Test.YtalmflikdnflfaaGreatMacEqJ
import Derived.WalkKit
import Derived.WalkSpells
import Derived.WalkLawsBesides
import Derived.Below
import Derived.Test.YtalmflikdnflfaaGreatMacTo4J
import Derived.Test.YtalmflikdnflfaaGreatJ0ExactFind
import Derived.Test.YtalmflikdnflfaaGreatJ1ExactFind
/- A machine of a call's own, each row in blocks apart; the laws' marks in it. -/
namespace Go.Proofs.YtalmflikdnflfaaGreat
open Go.RowKit
/-- A row of structs of a call's own in blocks of P: none, or at the head of a block. -/
def OwnL {α : Type} (sz : Nat) (hd : α → List Int) (ln : α → Nat) (At : World → Nat → α → Prop) (w : World) (P : Nat → Prop) (a : Option Addr) (rs : List α) : Prop :=
  rs = [] ∨ ∃ b g, a = some ⟨b, 0, none⟩ ∧ P b ∧ (∀ i, i < rs.length → P (g i)) ∧ b < w.heap.size ∧ Room w b (rs.length * sz) ∧ OwnG sz hd ln At w 0 b rs.length rs g
def OwnN (w : World) (P : Nat → Prop) (a : Option Addr) (zs : List Int) : Prop := zs = [] ∨ ∃ b, a = some ⟨b, 0, none⟩ ∧ P b ∧ b < w.heap.size ∧ NumsAt w b 0 zs ∧ Room w b zs.length
theorem OwnL.keep {α : Type} {sz : Nat} {hd : α → List Int} {ln : α → Nat} {At : World → Nat → α → Prop} (hAt : ∀ (w w' : World) (b : Nat) (r : α), w'.heap[b]? = w.heap[b]? → At w b r → At w' b r) {w w' : World} {P : Nat → Prop} {a : Option Addr} {rs : List α} (h : OwnL sz hd ln At w P a rs) (hs : w.heap.size ≤ w'.heap.size) (hk : ∀ q, q < w.heap.size → P q → w'.heap[q]? = w.heap[q]?) : OwnL sz hd ln At w' P a rs := by
  rcases h with h | ⟨b, g, ha, hp, hg, hl, hr, ho⟩
  · exact .inl h
  · exact .inr ⟨b, g, ha, hp, hg, Nat.lt_of_lt_of_le hl hs, hr.of_block (hk b hl hp), ho.of_blocks hAt hs (hk b hl hp) (fun i hi => hk _ (ho.lt i hi) (hg i hi))⟩
theorem OwnN.keep {w w' : World} {P : Nat → Prop} {a : Option Addr} {zs : List Int} (h : OwnN w P a zs) (hs : w.heap.size ≤ w'.heap.size) (hk : ∀ q, q < w.heap.size → P q → w'.heap[q]? = w.heap[q]?) : OwnN w' P a zs := by
  rcases h with h | ⟨b, ha, hp, hl, hn, hr⟩
  · exact .inl h
  · exact .inr ⟨b, ha, hp, Nat.lt_of_lt_of_le hl hs, hn.of_block (hk b hl hp), hr.of_block (hk b hl hp)⟩
/-- The machine of value v owns its three rows: in blocks of PK, PR and PD, all apart and none below B. -/
structure OM (w : World) (B : Nat) (v : MV) (m : M4) (PK PR PD : Nat → Prop) : Prop where
  k : OwnL 2 hdK lnK AtK w PK v.ac m.copies
  r : OwnL 4 hdR lnR AtR w PR v.al m.log
  n : OwnN w PD v.ad m.cleared
  kr : ∀ q, PK q → ¬ PR q
  kd : ∀ q, PK q → ¬ PD q
  rd : ∀ q, PR q → ¬ PD q
  kB : ∀ q, PK q → B ≤ q
  rB : ∀ q, PR q → B ≤ q
  dB : ∀ q, PD q → B ≤ q
theorem OM.sl {w : World} {B : Nat} {v : MV} {m : M4} {PK PR PD : Nat → Prop} (h : OM w B v m PK PR PD) : SlM w v m := by
  refine ⟨?_, ?_, ?_⟩
  · rcases h.k with e | ⟨b, g, ha, _, _, hl, _, ho⟩
    · exact ⟨rfl, .inl (by rw [e]; rfl)⟩
    · rw [ha]; exact ownK_sl ho hl
  · rcases h.r with e | ⟨b, g, ha, _, _, hl, _, ho⟩
    · exact ⟨rfl, .inl (by rw [e]; rfl)⟩
    · rw [ha]; exact ownR_sl ho hl
  · rcases h.n with e | ⟨b, ha, _, hl, hn, _⟩
    · exact ⟨rfl, .inl (by rw [e]; rfl)⟩
    · exact ⟨rfl, .inr ⟨b, 0, ha, hl, hn⟩⟩
def OfM (PK PR PD : Nat → Prop) (q : Nat) : Prop := PK q ∨ PR q ∨ PD q
theorem OM.keep {w w' : World} {B : Nat} {v : MV} {m : M4} {PK PR PD : Nat → Prop} (h : OM w B v m PK PR PD) (hs : w.heap.size ≤ w'.heap.size) (hk : ∀ q, q < w.heap.size → OfM PK PR PD q → w'.heap[q]? = w.heap[q]?) : OM w' B v m PK PR PD :=
  ⟨h.k.keep AtK.of_block hs (fun q hq hp => hk q hq (.inl hp)), h.r.keep AtR.of_block hs (fun q hq hp => hk q hq (.inr (.inl hp))), h.n.keep hs (fun q hq hp => hk q hq (.inr (.inr hp))), h.kr, h.kd, h.rd, h.kB, h.rB, h.dB⟩
theorem OM.later {w w' : World} {B : Nat} {v : MV} {m : M4} {PK PR PD : Nat → Prop} (h : OM w B v m PK PR PD) (hb : Below w.heap.size w w') : OM w' B v m PK PR PD := h.keep hb.size (fun q hq _ => hb.block q hq)
theorem OwnG.base {α : Type} {sz : Nat} {hd : α → List Int} {ln : α → Nat} {At : World → Nat → α → Prop} {w : World} {base b n : Nat} {rs : List α} {g : Nat → Nat} (h : OwnG sz hd ln At w base b n rs g) : OwnG sz hd ln At w 0 b n rs g := ⟨h.len, h.head, h.tail, fun _ _ => Nat.zero_le _, h.lt, h.ne, h.sub, h.inj⟩
theorem OwnM.om {w : World} {B0 B1 B2 B3 : Nat} {v : MV} {m : M4} {gk gr : Nat → Nat} (h : OwnM w B0 B1 B2 B3 v m gk gr) : OM w B0 v m (fun q => B0 ≤ q ∧ q < B1) (fun q => B1 ≤ q ∧ q < B2) (fun q => B2 ≤ q ∧ q < B3) := by
  have h1 := h.o1; have h2 := h.o2; have h3 := h.o3; have h4 := h.sz
  obtain ⟨b, e, l1, l, o, og, rm⟩ := h.k
  obtain ⟨b', e', l1', l', o', og', rm'⟩ := h.r
  obtain ⟨b'', e'', l1'', l'', o'', rm''⟩ := h.n
  exact ⟨.inr ⟨b, gk, e, ⟨l1, l⟩, fun i hi => ⟨o.low i hi, og i hi⟩, by omega, rm, o.base⟩, .inr ⟨b', gr, e', ⟨l1', l'⟩, fun i hi => ⟨o'.low i hi, og' i hi⟩, by omega, rm', o'.base⟩, .inr ⟨b'', e'', ⟨l1'', l''⟩, by omega, o'', rm''⟩,
    fun q hq hr => by omega, fun q hq hr => by omega, fun q hq hr => by omega, fun q hq => hq.1, fun q hq => by omega, fun q hq => by omega⟩
/-- Lengths that the laws' marks can count. -/
structure MT (m : M4) : Prop where
  k : m.copies.length ≤ 1048576
  ks : ∀ c ∈ m.copies, c.cells.length ≤ 1048576
  r : m.log.length ≤ 1048576
  rs : ∀ c ∈ m.log, c.sets.length ≤ 1048576
  n : m.cleared.length ≤ 1048576
  tk : offG cK m.copies m.copies.length ≤ 100000000
  tr : offG cR m.log m.log.length ≤ 100000000
theorem off_sum {α : Type} (c l : α → Nat) (a b : Nat) (h : ∀ r, c r = a + b * l r) (rs : List α) : offG c rs rs.length = a * rs.length + b * (rs.map l).sum := by
  unfold offG
  rw [List.take_of_length_le (by simp)]
  induction rs with
  | nil => simp
  | cons r rs ih =>
    simp only [List.map_cons, List.sum_cons, List.length_cons, ih, h, Nat.mul_add, Nat.mul_one]
    omega
theorem MT.of_sz {m : M4} (h : szM m ≤ 1048576) : MT m := by
  have hk := off_sum cK (fun k => k.cells.length) 1 2 (fun _ => rfl) m.copies
  have hr := off_sum cR (fun r => r.sets.length) 3 5 (fun _ => rfl) m.log
  unfold szM lensK lensR at h
  refine ⟨by omega, fun c hc => ?_, by omega, fun c hc => ?_, by omega, by rw [hk]; omega, by rw [hr]; omega⟩
  · have : c.cells.length ≤ (m.copies.map fun k => k.cells.length).sum := sum_mem (List.mem_map.2 ⟨c, hc, rfl⟩)
    omega
  · have : c.sets.length ≤ (m.log.map fun k => k.sets.length).sum := sum_mem (List.mem_map.2 ⟨c, hc, rfl⟩)
    omega
def endK (m : M4) (k : Int) : Int := k + offG cK m.copies m.copies.length
def endR (m : M4) (k : Int) : Int := endK m k + offG cR m.log m.log.length
def endM (m : M4) (k : Int) : Int := endR m k + m.cleared.length
def mkM (m : M4) (k : Int) : M4 := ⟨m.alive, mkKs m.copies k, mkRs m.log (endK m k), marks m.cleared.length (endR m k)⟩
theorem mkKs_len (ks : List K2) (k : Int) : (mkKs ks k).length = ks.length := by simp [mkKs]
theorem mkRs_len (ks : List R4) (k : Int) : (mkRs ks k).length = ks.length := by simp [mkRs]
theorem mkM_val (v : MV) (m : M4) (k : Int) : v.val (mkM m k) = v.val m := by simp [MV.val, mkM, mkKs_len, mkRs_len, marks_len]
theorem markK (w : World) (P : Nat → Prop) (a : Option Addr) (cap : Nat) (ks : List K2) (k : Int) (hk : 0 ≤ k) (hk' : k ≤ 500000000) (ht : offG cK ks ks.length ≤ 100000000) (hn : ks.length ≤ 1048576) (hl : ∀ c ∈ ks, c.cells.length ≤ 1048576) (h : OwnL 2 hdK lnK AtK w P a ks) :
    Calls Tryz.prog 107 #[.slice a ks.length cap, .int .i64 k] w fun e w' => e = .returned (.int .i64 (k + offG cK ks ks.length)) ∧ KeptP P w w' ∧ OwnL 2 hdK lnK AtK w' P a (mkKs ks k) := by
  rcases h with rfl | ⟨b, g, rfl, hp, hg, hb, hr, ho⟩
  · refine (markCopyS_nil w a cap k).mono ?_
    rintro e w' ⟨rfl, rfl⟩
    exact ⟨by simp [offG], KeptP.refl _ _, .inl rfl⟩
  · refine (markCopyS_own w b ks.length cap ks g k hk hk' ht hn hl hb hr ho).mono ?_
    rintro e w' ⟨rfl, hkp, ho', hr'⟩
    refine ⟨rfl, hkp.mono ?_, .inr ⟨b, g, rfl, hp, by rw [mkKs_len]; exact hg, Nat.lt_of_lt_of_le hb hkp.size, by rw [mkKs_len]; exact hr', by rw [mkKs_len]; exact ho'⟩⟩
    rintro q (rfl | ⟨i, hi, rfl⟩)
    · exact hp
    · exact hg i hi
theorem markR (w : World) (P : Nat → Prop) (a : Option Addr) (cap : Nat) (ks : List R4) (k : Int) (hk : 0 ≤ k) (hk' : k ≤ 500000000) (ht : offG cR ks ks.length ≤ 100000000) (hn : ks.length ≤ 1048576) (hl : ∀ c ∈ ks, c.sets.length ≤ 1048576) (h : OwnL 4 hdR lnR AtR w P a ks) :
    Calls Tryz.prog 108 #[.slice a ks.length cap, .int .i64 k] w fun e w' => e = .returned (.int .i64 (k + offG cR ks ks.length)) ∧ KeptP P w w' ∧ OwnL 4 hdR lnR AtR w' P a (mkRs ks k) := by
  rcases h with rfl | ⟨b, g, rfl, hp, hg, hb, hr, ho⟩
  · refine (markRecordS_nil w a cap k).mono ?_
    rintro e w' ⟨rfl, rfl⟩
    exact ⟨by simp [offG], KeptP.refl _ _, .inl rfl⟩
  · refine (markRecordS_own w b ks.length cap ks g k hk hk' ht hn hl hb hr ho).mono ?_
    rintro e w' ⟨rfl, hkp, ho', hr'⟩
    refine ⟨rfl, hkp.mono ?_, .inr ⟨b, g, rfl, hp, by rw [mkRs_len]; exact hg, Nat.lt_of_lt_of_le hb hkp.size, by rw [mkRs_len]; exact hr', by rw [mkRs_len]; exact ho'⟩⟩
    rintro q (rfl | ⟨i, hi, rfl⟩)
    · exact hp
    · exact hg i hi
theorem markN (w : World) (P : Nat → Prop) (a : Option Addr) (cap : Nat) (zs : List Int) (k : Int) (hk : 0 ≤ k) (hk' : k ≤ 1000000000) (hn : zs.length ≤ 1048576) (h : OwnN w P a zs) :
    Calls Tryz.prog 26 #[.slice a zs.length cap, .int .i64 k] w fun e w' => e = .returned (.int .i64 (k + zs.length)) ∧ KeptP P w w' ∧ OwnN w' P a (marks zs.length k) := by
  rcases h with rfl | ⟨b, rfl, hp, hb, hx, hr⟩
  · refine (markInt64S_none w a cap k).mono ?_
    rintro e w' ⟨rfl, rfl⟩
    exact ⟨by simp, KeptP.refl _ _, .inl rfl⟩
  · refine (markInt64S_own w b zs.length cap k hn hk hk' hr).mono ?_
    rintro e w' ⟨rfl, ho, hx', hr'⟩
    exact ⟨rfl, KeptP.of_only ho hp, .inr ⟨b, rfl, hp, by rw [ho.size]; exact hb, hx', by rw [marks_len]; exact hr'⟩⟩
end Go.Proofs.YtalmflikdnflfaaGreat
/- The laws' own copy of a machine. -/
namespace Go.Proofs.YtalmflikdnflfaaGreat
open Go.RowKit
theorem OM.mono {w : World} {B B' : Nat} {v : MV} {m : M4} {PK PR PD : Nat → Prop} (h : OM w B v m PK PR PD) (hb : B' ≤ B) : OM w B' v m PK PR PD := ⟨h.k, h.r, h.n, h.kr, h.kd, h.rd, fun q hq => Nat.le_trans hb (h.kB q hq), fun q hq => Nat.le_trans hb (h.rB q hq), fun q hq => Nat.le_trans hb (h.dB q hq)⟩
/-- The law's own copy of a machine: its blocks lie behind what was there. -/
theorem toM_any (w : World) (v : MV) (m : M4) (ht : MT m) (hs : SlM w v m) : Calls Tryz.prog 85 #[v.val m] w fun e w' =>
    ∃ (c4 : Option Addr) (k4 : Nat) (l4 : Option Addr) (j4 : Nat) (d4 : Option Addr) (i4 : Nat) (PK PR PD : Nat → Prop), e = .returned ((MV.mk c4 k4 l4 j4 d4 i4).val m) ∧ OM w' w.heap.size ⟨c4, k4, l4, j4, d4, i4⟩ m PK PR PD ∧ (∀ q, OfM PK PR PD q → q < w'.heap.size) ∧ Below w.heap.size w w' :=
  (toMachine_any w v m ht.k ht.ks ht.r ht.rs ht.n hs).mono (by
    rintro e w' ⟨⟨c4, k4, l4, j4, d4, i4⟩, B1, B2, B3, gk, gr, h1, h2, h3⟩
    have o1 := h2.o1; have o2 := h2.o2; have o3 := h2.o3; have o4 := h2.sz
    refine ⟨c4, k4, l4, j4, d4, i4, _, _, _, h1, h2.om.mono (by omega), fun q hq => ?_, h3⟩
    rcases hq with hq | hq | hq <;> omega)
theorem MT.ml {m : M4} (h : MT m) : ML m := ⟨by have := h.k; unfold maxLen; omega, fun c hc => by have := h.ks c hc; unfold maxLen; omega, by have := h.r; unfold maxLen; omega, fun c hc => by have := h.rs c hc; unfold maxLen; omega, by have := h.n; unfold maxLen; omega⟩
end Go.Proofs.YtalmflikdnflfaaGreat
/- The machine as a kind of data that a law hands over: copied, compared, counted. -/
namespace Go.Proofs.YtalmflikdnflfaaGreat
open Go.RowKit
theorem bkept {A X Y : World} {P : Nat → Prop} (h : Below A.heap.size A X) (k : KeptP P X Y) (hp : ∀ q, P q → A.heap.size ≤ q) : Below A.heap.size A Y := h.trans (k.below hp h.size)
/-- A machine of a call's own, in the blocks P. -/
def KM.Ow (w : World) (B : Nat) (a : Option Addr) (b : Nat) (c : Option Addr) (d : Nat) (e : Option Addr) (f : Nat) (m : M4) (P : Nat → Prop) : Prop := ∃ PK PR PD, OM w B ⟨a, b, c, d, e, f⟩ m PK PR PD ∧ (∀ q, OfM PK PR PD q → P q) ∧ (∀ q, P q → B ≤ q ∧ q < w.heap.size)
theorem KM.Ow.of {w : World} {B : Nat} {a : Option Addr} {b : Nat} {c : Option Addr} {d : Nat} {e : Option Addr} {f : Nat} {m : M4} {P : Nat → Prop} (h : KM.Ow w B a b c d e f m P) {q : Nat} (hq : P q) : B ≤ q ∧ q < w.heap.size := by obtain ⟨_, _, _, _, _, h3⟩ := h; exact h3 q hq
theorem KM.Ow.sl {w : World} {B : Nat} {a : Option Addr} {b : Nat} {c : Option Addr} {d : Nat} {e : Option Addr} {f : Nat} {m : M4} {P : Nat → Prop} (h : KM.Ow w B a b c d e f m P) : SlM w ⟨a, b, c, d, e, f⟩ m := by obtain ⟨_, _, _, h1, _, _⟩ := h; exact h1.sl
theorem KM.Ow.keep {w w' : World} {B : Nat} {a : Option Addr} {b : Nat} {c : Option Addr} {d : Nat} {e : Option Addr} {f : Nat} {m : M4} {P : Nat → Prop} (h : KM.Ow w B a b c d e f m P) (hs : w.heap.size ≤ w'.heap.size) (hk : ∀ q, P q → w'.heap[q]? = w.heap[q]?) : KM.Ow w' B a b c d e f m P := by
  obtain ⟨PK, PR, PD, h1, h2, h3⟩ := h
  exact ⟨PK, PR, PD, h1.keep hs (fun q _ hq => hk q (h2 q hq)), h2, fun q hq => ⟨(h3 q hq).1, Nat.lt_of_lt_of_le (h3 q hq).2 hs⟩⟩
theorem KM.Ow.later {w w' : World} {B : Nat} {a : Option Addr} {b : Nat} {c : Option Addr} {d : Nat} {e : Option Addr} {f : Nat} {m : M4} {P : Nat → Prop} (h : KM.Ow w B a b c d e f m P) (hb : Below w.heap.size w w') : KM.Ow w' B a b c d e f m P := h.keep hb.size (fun q hq => hb.block q (h.of hq).2)
theorem KM.Ow.low {w : World} {B B' : Nat} {a : Option Addr} {b : Nat} {c : Option Addr} {d : Nat} {e : Option Addr} {f : Nat} {m : M4} {P : Nat → Prop} (h : KM.Ow w B a b c d e f m P) (hb : B' ≤ B) : KM.Ow w B' a b c d e f m P := by
  obtain ⟨PK, PR, PD, h1, h2, h3⟩ := h
  exact ⟨PK, PR, PD, h1.mono hb, h2, fun q hq => ⟨Nat.le_trans hb (h3 q hq).1, (h3 q hq).2⟩⟩
theorem KM.of {w : World} {B : Nat} {a : Option Addr} {b : Nat} {c : Option Addr} {d : Nat} {e : Option Addr} {f : Nat} {m : M4} {PK PR PD : Nat → Prop} (h : OM w B ⟨a, b, c, d, e, f⟩ m PK PR PD) (hl : ∀ q, OfM PK PR PD q → q < w.heap.size) : KM.Ow w B a b c d e f m (OfM PK PR PD) :=
  ⟨PK, PR, PD, h, fun _ hq => hq, fun q hq => ⟨by rcases hq with hq | hq | hq; exact h.kB q hq; exact h.rB q hq; exact h.dB q hq, hl q hq⟩⟩
theorem KM.to (X : World) (a : Option Addr) (b : Nat) (c : Option Addr) (d : Nat) (e : Option Addr) (f : Nat) (m : M4) (ht : MT m) (h : SlM X ⟨a, b, c, d, e, f⟩ m) : Calls Tryz.prog 85 #[.agg #[.bool m.alive, .slice a m.copies.length b, .slice c m.log.length d, .slice e m.cleared.length f]] X fun r w' =>
    ∃ (a : Option Addr) (b : Nat) (c : Option Addr) (d : Nat) (e : Option Addr) (f : Nat) (P : Nat → Prop), r = .returned (.agg #[.bool m.alive, .slice a m.copies.length b, .slice c m.log.length d, .slice e m.cleared.length f]) ∧ KM.Ow w' X.heap.size a b c d e f m P ∧ Below X.heap.size X w' := by
  have hh := toM_any X ⟨a, b, c, d, e, f⟩ m ht h
  simp only [MV.val] at hh
  refine hh.mono ?_
  rintro r w' ⟨a, b, c, d, e, f, PK, PR, PD, rfl, o, l, bl⟩
  exact ⟨a, b, c, d, e, f, _, rfl, KM.of o l, bl⟩
theorem KM.eq (X : World) (a : Option Addr) (b : Nat) (c : Option Addr) (d : Nat) (e : Option Addr) (f : Nat) (a' : Option Addr) (b' : Nat) (c' : Option Addr) (d' : Nat) (e' : Option Addr) (f' : Nat) (m : M4) (ht : MT m) (h1 : SlM X ⟨a, b, c, d, e, f⟩ m) (h2 : SlM X ⟨a', b', c', d', e', f'⟩ m) : Calls Tryz.prog 101 #[.agg #[.bool m.alive, .slice a m.copies.length b, .slice c m.log.length d, .slice e m.cleared.length f], .agg #[.bool m.alive, .slice a' m.copies.length b', .slice c' m.log.length d', .slice e' m.cleared.length f']] X fun r w' => r = .returned (.bool true) ∧ Below X.heap.size X w' := by
  have hh := eqMachine_same X ⟨a, b, c, d, e, f⟩ ⟨a', b', c', d', e', f'⟩ m ht.ml h1 h2
  simp only [MV.val] at hh
  exact hh
theorem KM.sz (X : World) (a : Option Addr) (b : Nat) (c : Option Addr) (d : Nat) (e : Option Addr) (f : Nat) (m : M4) (hl : ML m) (h : SlM X ⟨a, b, c, d, e, f⟩ m) : Calls Tryz.prog 73 #[.agg #[.bool m.alive, .slice a m.copies.length b, .slice c m.log.length d, .slice e m.cleared.length f], .int .i64 1048576] X fun r w' => r = .returned (.int .i64 (leftR 1048576 (szM m))) ∧ Below X.heap.size X w' := by
  have hh := szMachine_any X ⟨a, b, c, d, e, f⟩ m hl h
  simp only [MV.val] at hh
  exact hh
end Go.Proofs.YtalmflikdnflfaaGreat
/- A machine's size with any rest. -/
namespace Go.Proofs.YtalmflikdnflfaaGreat
open Go.RowKit
set_option maxHeartbeats 2000000 in
theorem szMachine_l (w : World) (v : MV) (m : M4) (l0 : Nat) (hl0 : l0 ≤ 1048576) (hl : ML m) (hs : SlM w v m) : Calls Tryz.prog 73 #[v.val m, .int .i64 (l0 : Int)] w fun e w' => e = .returned (.int .i64 (leftR l0 (szM m))) ∧ Below w.heap.size w w' := by
  obtain ⟨ac, cc, al, cl, ad, cd⟩ := v
  have H : Hid (SlM w ⟨ac, cc, al, cl, ad, cd⟩ m ∧ ML m) := ⟨hs, hl⟩
  clear hs hl
  simp only [MV.val]
  have HM : Hid (szM m = (m.copies.length + lensK m.copies) + (m.log.length + lensR m.log) + m.cleared.length) := rfl
  have b0 : Below w.heap.size w (w.alloc (.cells #[.bool m.alive, .slice ac m.copies.length cc, .slice al m.log.length cl, .slice ad m.cleared.length cd] 119)) := (Below.refl _ _).alloc (Nat.le_refl _) _
  have u2 : (w.alloc (.cells #[.bool m.alive, .slice ac m.copies.length cc, .slice al m.log.length cl, .slice ad m.cleared.length cd] 119)).cell? ⟨w.heap.size, 2, none⟩ = some (.slice al m.log.length cl) := by go_simp
  have u3 : (w.alloc (.cells #[.bool m.alive, .slice ac m.copies.length cc, .slice al m.log.length cl, .slice ad m.cleared.length cd] 119)).cell? ⟨w.heap.size, 3, none⟩ = some (.slice ad m.cleared.length cd) := by go_simp
  have sU : w.heap.size < (w.alloc (.cells #[.bool m.alive, .slice ac m.copies.length cc, .slice al m.log.length cl, .slice ad m.cleared.length cd] 119)).heap.size := by simp
  have hz1 : Calls Tryz.prog 115 #[.slice ac m.copies.length cc, .int .i64 (l0 : Int)] (w.alloc (.cells #[.bool m.alive, .slice ac m.copies.length cc, .slice al m.log.length cl, .slice ad m.cleared.length cd] 119)) fun e w' => e = .returned (.int .i64 (leftR l0 (m.copies.length + lensK m.copies))) ∧ Below (w.alloc (.cells #[.bool m.alive, .slice ac m.copies.length cc, .slice al m.log.length cl, .slice ad m.cleared.length cd] 119)).heap.size (w.alloc (.cells #[.bool m.alive, .slice ac m.copies.length cc, .slice al m.log.length cl, .slice ad m.cleared.length cd] 119)) w' := szCopyS_l (w.alloc (.cells #[.bool m.alive, .slice ac m.copies.length cc, .slice al m.log.length cl, .slice ad m.cleared.length cd] 119)) ac m.copies.length cc m.copies l0 H.out.2.k hl0 (H.out.1.later b0).k H.out.2.ks
  have hz2 := fun W l (h : Below w.heap.size w W) (hl : l ≤ 1048576) => szRecordS_l W al m.log.length cl m.log l H.out.2.r hl (H.out.1.later h).r H.out.2.rs
  have hz3 := fun W l (hl : l ≤ 1048576) => szInt64S_l W ad m.cleared.length cd l H.out.2.n hl
  obtain ⟨A, hA⟩ : ∃ A, m.copies.length + lensK m.copies = A := ⟨_, rfl⟩
  obtain ⟨Bn, hB⟩ : ∃ Bn, m.log.length + lensR m.log = Bn := ⟨_, rfl⟩
  obtain ⟨Cn, hC⟩ : ∃ Cn, m.cleared.length = Cn := ⟨_, rfl⟩
  rw [HM.out]
  simp only [hA, hB] at hz1 hz2 ⊢
  have HZ2 : Hid (∀ (W : World) (l : Nat), Below w.heap.size w W → l ≤ 1048576 → Calls Tryz.prog 116 #[.slice al m.log.length cl, .int .i64 (l : Int)] W fun e w' => e = .returned (.int .i64 (leftR l Bn)) ∧ Below W.heap.size W w') := hz2
  have HZ3 : Hid (∀ (W : World) (l : Nat), l ≤ 1048576 → Calls Tryz.prog 114 #[.slice ad m.cleared.length cd, .int .i64 (l : Int)] W fun e w' => e = .returned (.int .i64 (leftR l m.cleared.length)) ∧ w' = W) := hz3
  have SU : Hid (w.heap.size < (w.alloc (.cells #[.bool m.alive, .slice ac m.copies.length cc, .slice al m.log.length cl, .slice ad m.cleared.length cd] 119)).heap.size ∧ Below w.heap.size w (w.alloc (.cells #[.bool m.alive, .slice ac m.copies.length cc, .slice al m.log.length cl, .slice ad m.cleared.length cd] 119))) := ⟨sU, b0⟩
  clear hA hB hC hz2 hz3 sU b0 HM
  by_cases h1 : A ≤ l0
  · rw [leftR_yes h1] at hz1
    have g1 : decide (((l0 - A : Nat) : Int) < 0) = false := by simp
    go_enter Tryz.func73, Tryz.ntmps73
    go_wp2_with fail
    refine hz1.mono ?_
    clear hz1
    rintro e w1 ⟨rfl, b1⟩
    have c2 := (b1.cell (p := ⟨w.heap.size, 2, none⟩) SU.out.1).trans u2
    have c3 := (b1.cell (p := ⟨w.heap.size, 3, none⟩) SU.out.1).trans u3
    have B1 : Hid (Below w.heap.size w w1 ∧ w.heap.size < w1.heap.size) := ⟨SU.out.2.trans (b1.mono SU.out.2.size), Nat.lt_of_lt_of_le SU.out.1 b1.size⟩
    clear u2 u3 b1
    go_wp2_with fail
    have hz := HZ2.out w1 (l0 - A) B1.out.1 (by omega)
    by_cases h2 : Bn ≤ l0 - A
    · rw [leftR_yes h2] at hz
      have g2 : decide (((l0 - A - Bn : Nat) : Int) < 0) = false := by simp
      refine hz.mono ?_
      clear hz
      rintro e w2 ⟨rfl, b2⟩
      have x3 := (b2.cell (p := ⟨w.heap.size, 3, none⟩) B1.out.2).trans c3
      have B2 : Hid (Below w.heap.size w w2) := B1.out.1.trans (b2.mono B1.out.1.size)
      clear c2 c3 b2
      go_wp2_with fail
      have hz := HZ3.out w2 (l0 - A - Bn) (by omega)
      by_cases h3 : m.cleared.length ≤ l0 - A - Bn
      · rw [leftR_yes h3] at hz
        have g3 : decide (((l0 - A - Bn - m.cleared.length : Nat) : Int) < 0) = false := by simp
        refine hz.mono ?_
        clear hz
        rintro e w2 ⟨rfl, rfl⟩
        go_wp2
        go_ret
        exact ⟨by rw [leftR_yes (by omega), show l0 - (A + Bn + m.cleared.length) = l0 - A - Bn - m.cleared.length by omega]; rfl, B2.out⟩
      · rw [leftR_no h3] at hz
        refine hz.mono ?_
        clear hz
        rintro e w2 ⟨rfl, rfl⟩
        go_wp2
        go_ret
        exact ⟨by rw [leftR_no (by omega)]; rfl, B2.out⟩
    · rw [leftR_no h2] at hz
      refine hz.mono ?_
      clear hz
      rintro e w2 ⟨rfl, b2⟩
      have B2 : Hid (Below w.heap.size w w2) := B1.out.1.trans (b2.mono B1.out.1.size)
      clear b2
      go_wp2
      go_ret
      exact ⟨by rw [leftR_no (by omega)]; rfl, B2.out⟩
  · rw [leftR_no h1] at hz1
    go_enter Tryz.func73, Tryz.ntmps73
    go_wp2_with fail
    refine hz1.mono ?_
    clear hz1
    rintro e w1 ⟨rfl, b1⟩
    have B1 : Hid (Below w.heap.size w w1) := SU.out.2.trans (b1.mono SU.out.2.size)
    clear b1
    go_wp2
    go_ret
    exact ⟨by rw [leftR_no (by omega)]; rfl, B1.out⟩
end Go.Proofs.YtalmflikdnflfaaGreat
/- Machines as elements of rows. -/
namespace Go.Proofs.YtalmflikdnflfaaGreat
open Go.RowKit
theorem KM.szl (X : World) (a : Option Addr) (b : Nat) (c : Option Addr) (d : Nat) (e : Option Addr) (f : Nat) (m : M4) (l : Nat) (hl0 : l ≤ 1048576) (hl : ML m) (h : SlM X ⟨a, b, c, d, e, f⟩ m) : Calls Tryz.prog 73 #[.agg #[.bool m.alive, .slice a m.copies.length b, .slice c m.log.length d, .slice e m.cleared.length f], .int .i64 (l : Int)] X fun r w' => r = .returned (.int .i64 (leftR l (szM m))) ∧ Below X.heap.size X w' := by
  have hh := szMachine_l X ⟨a, b, c, d, e, f⟩ m l hl0 hl h
  simp only [MV.val] at hh
  exact hh
def KMk : Kd M4 MV where
  n := 4
  cells v m := [.bool m.alive, .slice v.ac m.copies.length v.cc, .slice v.al m.log.length v.cl, .slice v.ad m.cleared.length v.cd]
  len := fun _ _ => rfl
  Rd := SlM
  Ow w B v m P := KM.Ow w B v.ac v.cc v.al v.cl v.ad v.cd m P
  later := fun h b => h.later b
  sl := fun h => h.sl
  of := fun h hq => h.of hq
  keep := fun h hs hk => h.keep hs hk
  low := fun h hb => h.low hb
end Go.Proofs.YtalmflikdnflfaaGreat
