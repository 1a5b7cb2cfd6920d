/- MkD; Grow: joined. -/
import Derived.Test.YtcbfnajpcaipkaaRows
import Derived.Test.YtcbfnajpcaipkaaJ7ExactNewCluster
import Derived.Test.YtcbfnajpcaipkaaMacEqJ
import Derived.WalkKit
import Derived.WalkSpells
import Derived.WalkLawsBesides
import Derived.Below
import Derived.Maps.AppendAt
import Derived.Laws.OwnMore
import Derived.Deep.AppendLies
namespace Go.Proofs.Ytcbfnajpcaipkaa
open Go.RowKit
def OwnL {α : Type} (sz : Nat) (hd : α → List Int) (ln : α → Nat) (At : World → Nat → α → Prop) (w : World) (P : Nat → Prop) (a : Option Addr) (rs : List α) : Prop :=
  rs = [] ∨ ∃ b g, a = some ⟨b, 0, none⟩ ∧ P b ∧ (∀ i, i < rs.length → P (g i)) ∧ b < w.heap.size ∧ Room w b (rs.length * sz) ∧ OwnG sz hd ln At w 0 b rs.length rs g
def OwnN (w : World) (P : Nat → Prop) (a : Option Addr) (zs : List Int) : Prop := zs = [] ∨ ∃ b, a = some ⟨b, 0, none⟩ ∧ P b ∧ b < w.heap.size ∧ NumsAt w b 0 zs ∧ Room w b zs.length
theorem OwnL.keep {α : Type} {sz : Nat} {hd : α → List Int} {ln : α → Nat} {At : World → Nat → α → Prop} (hAt : ∀ (w w' : World) (b : Nat) (r : α), w'.heap[b]? = w.heap[b]? → At w b r → At w' b r) {w w' : World} {P : Nat → Prop} {a : Option Addr} {rs : List α} (h : OwnL sz hd ln At w P a rs) (hs : w.heap.size ≤ w'.heap.size) (hk : ∀ q, q < w.heap.size → P q → w'.heap[q]? = w.heap[q]?) : OwnL sz hd ln At w' P a rs := by
  rcases h with h | ⟨b, g, ha, hp, hg, hl, hr, ho⟩
  · exact .inl h
  · exact .inr ⟨b, g, ha, hp, hg, Nat.lt_of_lt_of_le hl hs, hr.of_block (hk b hl hp), ho.of_blocks hAt hs (hk b hl hp) (fun i hi => hk _ (ho.lt i hi) (hg i hi))⟩
theorem OwnN.keep {w w' : World} {P : Nat → Prop} {a : Option Addr} {zs : List Int} (h : OwnN w P a zs) (hs : w.heap.size ≤ w'.heap.size) (hk : ∀ q, q < w.heap.size → P q → w'.heap[q]? = w.heap[q]?) : OwnN w' P a zs := by
  rcases h with h | ⟨b, ha, hp, hl, hn, hr⟩
  · exact .inl h
  · exact .inr ⟨b, ha, hp, Nat.lt_of_lt_of_le hl hs, hn.of_block (hk b hl hp), hr.of_block (hk b hl hp)⟩
structure OM (w : World) (B : Nat) (v : MV) (m : M4) (PK PR PD : Nat → Prop) : Prop where
  k : OwnL 2 hdK lnK AtK w PK v.ac m.copies
  r : OwnL 4 hdR lnR AtR w PR v.al m.log
  n : OwnN w PD v.ad m.cleared
  kr : ∀ q, PK q → ¬ PR q
  kd : ∀ q, PK q → ¬ PD q
  rd : ∀ q, PR q → ¬ PD q
  kB : ∀ q, PK q → B ≤ q
  rB : ∀ q, PR q → B ≤ q
  dB : ∀ q, PD q → B ≤ q
theorem OM.sl {w : World} {B : Nat} {v : MV} {m : M4} {PK PR PD : Nat → Prop} (h : OM w B v m PK PR PD) : SlM w v m := by
  refine ⟨?_, ?_, ?_⟩
  · rcases h.k with e | ⟨b, g, ha, _, _, hl, _, ho⟩
    · exact ⟨rfl, .inl (by rw [e]; rfl)⟩
    · rw [ha]; exact ownK_sl ho hl
  · rcases h.r with e | ⟨b, g, ha, _, _, hl, _, ho⟩
    · exact ⟨rfl, .inl (by rw [e]; rfl)⟩
    · rw [ha]; exact ownR_sl ho hl
  · rcases h.n with e | ⟨b, ha, _, hl, hn, _⟩
    · exact ⟨rfl, .inl (by rw [e]; rfl)⟩
    · exact ⟨rfl, .inr ⟨b, 0, ha, hl, hn⟩⟩
def OfM (PK PR PD : Nat → Prop) (q : Nat) : Prop := PK q ∨ PR q ∨ PD q
theorem OM.keep {w w' : World} {B : Nat} {v : MV} {m : M4} {PK PR PD : Nat → Prop} (h : OM w B v m PK PR PD) (hs : w.heap.size ≤ w'.heap.size) (hk : ∀ q, q < w.heap.size → OfM PK PR PD q → w'.heap[q]? = w.heap[q]?) : OM w' B v m PK PR PD :=
  ⟨h.k.keep AtK.of_block hs (fun q hq hp => hk q hq (.inl hp)), h.r.keep AtR.of_block hs (fun q hq hp => hk q hq (.inr (.inl hp))), h.n.keep hs (fun q hq hp => hk q hq (.inr (.inr hp))), h.kr, h.kd, h.rd, h.kB, h.rB, h.dB⟩
theorem OM.later {w w' : World} {B : Nat} {v : MV} {m : M4} {PK PR PD : Nat → Prop} (h : OM w B v m PK PR PD) (hb : Below w.heap.size w w') : OM w' B v m PK PR PD := h.keep hb.size (fun q hq _ => hb.block q hq)
theorem OwnG.base {α : Type} {sz : Nat} {hd : α → List Int} {ln : α → Nat} {At : World → Nat → α → Prop} {w : World} {base b n : Nat} {rs : List α} {g : Nat → Nat} (h : OwnG sz hd ln At w base b n rs g) : OwnG sz hd ln At w 0 b n rs g := ⟨h.len, h.head, h.tail, fun _ _ => Nat.zero_le _, h.lt, h.ne, h.sub, h.inj⟩
theorem OwnM.om {w : World} {B0 B1 B2 B3 : Nat} {v : MV} {m : M4} {gk gr : Nat → Nat} (h : OwnM w B0 B1 B2 B3 v m gk gr) : OM w B0 v m (fun q => B0 ≤ q ∧ q < B1) (fun q => B1 ≤ q ∧ q < B2) (fun q => B2 ≤ q ∧ q < B3) := by
  have h1 := h.o1; have h2 := h.o2; have h3 := h.o3; have h4 := h.sz
  obtain ⟨b, e, l1, l, o, og, rm⟩ := h.k
  obtain ⟨b', e', l1', l', o', og', rm'⟩ := h.r
  obtain ⟨b'', e'', l1'', l'', o'', rm''⟩ := h.n
  exact ⟨.inr ⟨b, gk, e, ⟨l1, l⟩, fun i hi => ⟨o.low i hi, og i hi⟩, by omega, rm, o.base⟩, .inr ⟨b', gr, e', ⟨l1', l'⟩, fun i hi => ⟨o'.low i hi, og' i hi⟩, by omega, rm', o'.base⟩, .inr ⟨b'', e'', ⟨l1'', l''⟩, by omega, o'', rm''⟩,
    fun q hq hr => by omega, fun q hq hr => by omega, fun q hq hr => by omega, fun q hq => hq.1, fun q hq => by omega, fun q hq => by omega⟩
structure MT (m : M4) : Prop where
  k : m.copies.length ≤ 1048576
  ks : ∀ c ∈ m.copies, c.cells.length ≤ 1048576
  r : m.log.length ≤ 1048576
  rs : ∀ c ∈ m.log, c.sets.length ≤ 1048576
  n : m.cleared.length ≤ 1048576
  tk : offG cK m.copies m.copies.length ≤ 100000000
  tr : offG cR m.log m.log.length ≤ 100000000
theorem off_sum {α : Type} (c l : α → Nat) (a b : Nat) (h : ∀ r, c r = a + b * l r) (rs : List α) : offG c rs rs.length = a * rs.length + b * (rs.map l).sum := by
  unfold offG
  rw [List.take_of_length_le (by simp)]
  induction rs with
  | nil => simp
  | cons r rs ih =>
    simp only [List.map_cons, List.sum_cons, List.length_cons, ih, h, Nat.mul_add, Nat.mul_one]
    omega
theorem MT.of_sz {m : M4} (h : szM m ≤ 1048576) : MT m := by
  have hk := off_sum cK (fun k => k.cells.length) 1 2 (fun _ => rfl) m.copies
  have hr := off_sum cR (fun r => r.sets.length) 3 5 (fun _ => rfl) m.log
  unfold szM lensK lensR at h
  refine ⟨by omega, fun c hc => ?_, by omega, fun c hc => ?_, by omega, by rw [hk]; omega, by rw [hr]; omega⟩
  · have : c.cells.length ≤ (m.copies.map fun k => k.cells.length).sum := sum_mem (List.mem_map.2 ⟨c, hc, rfl⟩)
    omega
  · have : c.sets.length ≤ (m.log.map fun k => k.sets.length).sum := sum_mem (List.mem_map.2 ⟨c, hc, rfl⟩)
    omega
def endK (m : M4) (k : Int) : Int := k + offG cK m.copies m.copies.length
def endR (m : M4) (k : Int) : Int := endK m k + offG cR m.log m.log.length
def endM (m : M4) (k : Int) : Int := endR m k + m.cleared.length
def mkM (m : M4) (k : Int) : M4 := ⟨m.alive, mkKs m.copies k, mkRs m.log (endK m k), marks m.cleared.length (endR m k)⟩
theorem mkKs_len (ks : List K2) (k : Int) : (mkKs ks k).length = ks.length := by simp [mkKs]
theorem mkRs_len (ks : List R4) (k : Int) : (mkRs ks k).length = ks.length := by simp [mkRs]
theorem markK (w : World) (P : Nat → Prop) (a : Option Addr) (cap : Nat) (ks : List K2) (k : Int) (hk : 0 ≤ k) (hk' : k ≤ 500000000) (ht : offG cK ks ks.length ≤ 100000000) (hn : ks.length ≤ 1048576) (hl : ∀ c ∈ ks, c.cells.length ≤ 1048576) (h : OwnL 2 hdK lnK AtK w P a ks) :
    Calls Try.prog 77 #[.slice a ks.length cap, .int .i64 k] w fun e w' => e = .returned (.int .i64 (k + offG cK ks ks.length)) ∧ KeptP P w w' ∧ OwnL 2 hdK lnK AtK w' P a (mkKs ks k) := by
  rcases h with rfl | ⟨b, g, rfl, hp, hg, hb, hr, ho⟩
  · refine (markCopyS_nil w a cap k).mono ?_
    rintro e w' ⟨rfl, rfl⟩
    exact ⟨by simp [offG], KeptP.refl _ _, .inl rfl⟩
  · refine (markCopyS_own w b ks.length cap ks g k hk hk' ht hn hl hb hr ho).mono ?_
    rintro e w' ⟨rfl, hkp, ho', hr'⟩
    refine ⟨rfl, hkp.mono ?_, .inr ⟨b, g, rfl, hp, by rw [mkKs_len]; exact hg, Nat.lt_of_lt_of_le hb hkp.size, by rw [mkKs_len]; exact hr', by rw [mkKs_len]; exact ho'⟩⟩
    rintro q (rfl | ⟨i, hi, rfl⟩)
    · exact hp
    · exact hg i hi
theorem markR (w : World) (P : Nat → Prop) (a : Option Addr) (cap : Nat) (ks : List R4) (k : Int) (hk : 0 ≤ k) (hk' : k ≤ 500000000) (ht : offG cR ks ks.length ≤ 100000000) (hn : ks.length ≤ 1048576) (hl : ∀ c ∈ ks, c.sets.length ≤ 1048576) (h : OwnL 4 hdR lnR AtR w P a ks) :
    Calls Try.prog 78 #[.slice a ks.length cap, .int .i64 k] w fun e w' => e = .returned (.int .i64 (k + offG cR ks ks.length)) ∧ KeptP P w w' ∧ OwnL 4 hdR lnR AtR w' P a (mkRs ks k) := by
  rcases h with rfl | ⟨b, g, rfl, hp, hg, hb, hr, ho⟩
  · refine (markRecordS_nil w a cap k).mono ?_
    rintro e w' ⟨rfl, rfl⟩
    exact ⟨by simp [offG], KeptP.refl _ _, .inl rfl⟩
  · refine (markRecordS_own w b ks.length cap ks g k hk hk' ht hn hl hb hr ho).mono ?_
    rintro e w' ⟨rfl, hkp, ho', hr'⟩
    refine ⟨rfl, hkp.mono ?_, .inr ⟨b, g, rfl, hp, by rw [mkRs_len]; exact hg, Nat.lt_of_lt_of_le hb hkp.size, by rw [mkRs_len]; exact hr', by rw [mkRs_len]; exact ho'⟩⟩
    rintro q (rfl | ⟨i, hi, rfl⟩)
    · exact hp
    · exact hg i hi
theorem markN (w : World) (P : Nat → Prop) (a : Option Addr) (cap : Nat) (zs : List Int) (k : Int) (hk : 0 ≤ k) (hk' : k ≤ 1000000000) (hn : zs.length ≤ 1048576) (h : OwnN w P a zs) :
    Calls Try.prog 50 #[.slice a zs.length cap, .int .i64 k] w fun e w' => e = .returned (.int .i64 (k + zs.length)) ∧ KeptP P w w' ∧ OwnN w' P a (marks zs.length k) := by
  rcases h with rfl | ⟨b, rfl, hp, hb, hx, hr⟩
  · refine (markInt64S_none w a cap k).mono ?_
    rintro e w' ⟨rfl, rfl⟩
    exact ⟨by simp, KeptP.refl _ _, .inl rfl⟩
  · refine (markInt64S_own w b zs.length cap k hn hk hk' hr).mono ?_
    rintro e w' ⟨rfl, ho, hx', hr'⟩
    exact ⟨rfl, KeptP.of_only ho hp, .inr ⟨b, rfl, hp, by rw [ho.size]; exact hb, hx', by rw [marks_len]; exact hr'⟩⟩
def cellsG {α : Type} (hd : α → List Int) (ln : α → Nat) (r : α) (q cap : Nat) : List Value := (hd r).map (Value.int .i64) ++ [.slice (some ⟨q, 0, none⟩) (ln r) cap]
def flatG {α : Type} (hd : α → List Int) (ln : α → Nat) (rs : List α) (g caps : Nat → Nat) : List Value := rs.zipIdx.flatMap fun p => cellsG hd ln p.1 (g p.2) (caps p.2)
theorem flat_at {β : Type} {f : β → List Value} {sz : Nat} : ∀ {l : List β} (_ : ∀ x ∈ l, (f x).length = sz) {i t : Nat} {x : β}, l[i]? = some x → t < sz → (l.flatMap f)[i * sz + t]? = (f x)[t]?
  | [], _, i, t, x, h, _ => by simp at h
  | y :: l, hf, 0, t, x, h, ht => by
    simp at h
    subst h
    rw [List.flatMap_cons, List.getElem?_append_left (by rw [hf y (by simp)]; omega)]
    simp
  | y :: l, hf, i + 1, t, x, h, ht => by
    have hl := hf y (by simp)
    rw [List.flatMap_cons, List.getElem?_append_right (by rw [hl, Nat.add_mul]; omega), hl, show (i + 1) * sz + t - sz = i * sz + t by rw [Nat.add_mul]; omega]
    exact flat_at (fun x hx => hf x (by simp [hx])) (by simpa using h) ht
theorem flatG_at {α : Type} {hd : α → List Int} {ln : α → Nat} {sz : Nat} (hh : ∀ r, (hd r).length + 1 = sz) {rs : List α} {g caps : Nat → Nat} {i t : Nat} {r : α} (h : rs[i]? = some r) (ht : t < sz) : (flatG hd ln rs g caps)[i * sz + t]? = (cellsG hd ln r (g i) (caps i))[t]? := by
  have h' : rs.zipIdx[i]? = some (r, i) := by simp [h]
  exact flat_at (f := fun p : α × Nat => cellsG hd ln p.1 (g p.2) (caps p.2)) (fun x _ => by simp [cellsG, hh]) h' ht
theorem flat_cong {β : Type} {f f' : β → List Value} : ∀ {l : List β}, (∀ x ∈ l, f x = f' x) → l.flatMap f = l.flatMap f'
  | [], _ => rfl
  | y :: l, h => by rw [List.flatMap_cons, List.flatMap_cons, h y (by simp), flat_cong (fun x hx => h x (by simp [hx]))]
theorem flatG_snoc {α : Type} {hd : α → List Int} {ln : α → Nat} (rs : List α) (r : α) (g caps : Nat → Nat) (q cap : Nat) : flatG hd ln (rs ++ [r]) (fun i => if i = rs.length then q else g i) (fun i => if i = rs.length then cap else caps i) = flatG hd ln rs g caps ++ cellsG hd ln r q cap := by
  unfold flatG
  rw [List.zipIdx_append, List.flatMap_append]
  congr 1
  · have : ∀ p ∈ rs.zipIdx, p.2 < rs.length := fun p hp => by
      have := List.snd_lt_of_mem_zipIdx hp
      omega
    refine flat_cong fun p hp => ?_
    have := this p hp
    simp only [if_neg (show p.2 ≠ rs.length by omega)]
  · simp
structure GrowG {α : Type} (T : TypeId) (sz : Nat) (hd : α → List Int) (ln : α → Nat) (At : World → Nat → α → Prop) (w : World) (base : Nat) (v : Value) (rs : List α) (g : Nat → Nat) : Prop where
  row : ∃ caps : Nat → Nat, w.ownsRow base T sz v rs.length (flatG hd ln rs g caps) ∧ ∀ i r, rs[i]? = some r → ln r ≤ caps i
  low : ∀ i, i < rs.length → base ≤ g i
  lt : ∀ i, i < rs.length → g i < w.heap.size
  ne : ∀ i, i < rs.length → v.ownBlock ≠ some (g i)
  sub : ∀ i r, rs[i]? = some r → At w (g i) r
  inj : ∀ i j, i < rs.length → j < rs.length → g i = g j → i = j
theorem GrowG.nil {α : Type} {T : TypeId} {sz : Nat} {hd : α → List Int} {ln : α → Nat} {At : World → Nat → α → Prop} (w : World) (base : Nat) (g : Nat → Nat) : GrowG T sz hd ln At w base (.slice none 0 0) [] g :=
  ⟨⟨fun _ => 0, ⟨by simp [flatG], .inl ⟨rfl, rfl⟩⟩, fun i r e => by simp at e⟩, fun i h => by simp at h, fun i h => by simp at h, fun i h => by simp at h, fun i r e => by simp at e, fun i j h => by simp at h⟩
theorem GrowG.lies {α : Type} {T : TypeId} {sz : Nat} {hd : α → List Int} {ln : α → Nat} {At : World → Nat → α → Prop} {w : World} {base : Nat} {v : Value} {rs : List α} {g : Nat → Nat} (h : GrowG T sz hd ln At w base v rs g) {q : Nat} (e : v.ownBlock = some q) : base ≤ q ∧ q < w.heap.size := by
  obtain ⟨caps, ho, _⟩ := h.row
  exact World.ownsRow.lt ho q e
theorem GrowG.keep {α : Type} {T : TypeId} {sz : Nat} {hd : α → List Int} {ln : α → Nat} {At : World → Nat → α → Prop} (hAt : ∀ (w w' : World) (b : Nat) (r : α), w'.heap[b]? = w.heap[b]? → At w b r → At w' b r) {w w' : World} {base : Nat} {v : Value} {rs : List α} {g : Nat → Nat} (h : GrowG T sz hd ln At w base v rs g) (hsz : w.heap.size ≤ w'.heap.size) (hs : ∀ q, q < w.heap.size → (v.ownBlock = some q ∨ ∃ i, i < rs.length ∧ g i = q) → w'.heap[q]? = w.heap[q]?) : GrowG T sz hd ln At w' base v rs g := by
  obtain ⟨caps, ho, hc⟩ := h.row
  refine ⟨⟨caps, ⟨ho.1, ho.2.imp id ?_⟩, hc⟩, h.low, fun i hi => Nat.lt_of_lt_of_le (h.lt i hi) hsz, h.ne, fun i r e => ?_, h.inj⟩
  · rintro ⟨q, cap, cur, rfl, l, hg, r⟩
    exact ⟨q, cap, cur, rfl, l, (hs q (World.ownsRow.lt ho q rfl).2 (.inl rfl)).trans hg, r⟩
  · have hi := (List.getElem?_eq_some_iff.1 e).1
    exact hAt _ _ _ _ (hs _ (h.lt i hi) (.inr ⟨i, hi, rfl⟩)) (h.sub i r e)
theorem GrowG.later {α : Type} {T : TypeId} {sz : Nat} {hd : α → List Int} {ln : α → Nat} {At : World → Nat → α → Prop} (hAt : ∀ (w w' : World) (b : Nat) (r : α), w'.heap[b]? = w.heap[b]? → At w b r → At w' b r) {w w' : World} {base : Nat} {v : Value} {rs : List α} {g : Nat → Nat} (h : GrowG T sz hd ln At w base v rs g) (hb : Below w.heap.size w w') : GrowG T sz hd ln At w' base v rs g := h.keep hAt hb.size (fun q hq _ => hb.block q hq)
theorem GrowG.own {α : Type} {T : TypeId} {sz : Nat} {hd : α → List Int} {ln : α → Nat} {At : World → Nat → α → Prop} (hh : ∀ r, (hd r).length + 1 = sz) {w : World} {base : Nat} {v : Value} {rs : List α} {g : Nat → Nat} (h : GrowG T sz hd ln At w base v rs g) (hne : rs ≠ []) :
    ∃ b cap, v = .slice (some ⟨b, 0, none⟩) rs.length cap ∧ base ≤ b ∧ b < w.heap.size ∧ rs.length ≤ cap ∧ Room w b (rs.length * sz) ∧ OwnG sz hd ln At w base b rs.length rs g := by
  obtain ⟨caps, ho, hc⟩ := h.row
  have hpos : 0 < rs.length := List.length_pos_iff.2 hne
  have hcap : ∃ b cap, v = .slice (some ⟨b, 0, none⟩) rs.length cap ∧ rs.length ≤ cap := by
    rcases ho.2 with ⟨_, h0⟩ | ⟨b, cap, cur, rfl, _, _, hl, _⟩
    · omega
    · exact ⟨b, cap, rfl, hl⟩
  obtain ⟨b, cap, rfl, hl⟩ := hcap
  have hb := World.ownsRow.lt ho b rfl
  have hlen : ∀ i r, rs[i]? = some r → i < rs.length := fun i r e => (List.getElem?_eq_some_iff.1 e).1
  have hat : ∀ i r t, rs[i]? = some r → t < sz → w.cell? ⟨b, i * sz + t, none⟩ = (cellsG hd ln r (g i) (caps i))[t]? := fun i r t e ht => by
    have : (i + 1) * sz ≤ rs.length * sz := Nat.mul_le_mul_right sz (hlen i r e)
    rw [Nat.add_mul] at this
    rw [World.ownsRow.cellAt ho _ (by omega)]
    exact flatG_at hh e ht
  refine ⟨b, cap, rfl, hb.1, hb.2, hl, fun j hj => ?_, ⟨rfl, fun i r e t z ht => ?_, fun i r e => ?_, h.low, h.lt, fun i hi e => h.ne i hi (by rw [e]; rfl), h.sub, h.inj⟩⟩
  · have hx : j < (flatG hd ln rs g caps).length := by rw [ho.1]; exact hj
    exact ⟨_, by rw [World.ownsRow.cellAt ho j hj]; exact List.getElem?_eq_getElem hx, World.ownsRow.frozenAt ho j⟩
  · have htl := (List.getElem?_eq_some_iff.1 ht).1
    have := hh r
    rw [hat i r t e (by omega), cellsG, List.getElem?_append_left (by simpa using htl), List.getElem?_map, ht]; rfl
  · have := hh r
    refine ⟨caps i, ?_, hc i r e⟩
    rw [hat i r (sz - 1) e (by omega), cellsG, List.getElem?_append_right (by simp; omega)]
    simp [show sz - 1 - (hd r).length = 0 by omega]
theorem GrowG.push {α : Type} {T ST : TypeId} {sz by_ : Nat} {hd : α → List Int} {ln : α → Nat} {At : World → Nat → α → Prop} (hAt : ∀ (w w' : World) (b : Nat) (r : α), w'.heap[b]? = w.heap[b]? → At w b r → At w' b r) (hh : ∀ r, (hd r).length + 1 = sz) {P : Program} {i0 : TypeInfo} {z : Value} (ht : P.underlying ST = some (.slice T)) (hi : P.info? T = some i0) (hz : i0.zero = some z) (hs : i0.size = sz) (hby : i0.bytes = by_) (hzs : z.cells.size = sz) (hbb : by_ ≤ 1000)
    {W : World} {base e : Nat} {v : Value} {rs : List α} {g : Nat → Nat} (h : GrowG T sz hd ln At W base v rs g) (r : α) (q cap : Nat) (hm : rs.length ≤ 100000) (ty : TypeId)
    (he : ∀ j u, (cellsG hd ln r q cap)[j]? = some u → W.cell? ⟨e, j, none⟩ = some u) (hat : At W q r) (hc : ln r ≤ cap) (hq : base ≤ q) (hql : q < W.heap.size) (hn : v.ownBlock ≠ some q) (hf : ∀ i, i < rs.length → g i ≠ q) (hbase : base ≤ W.heap.size) :
    ∃ v' W', (Builtin.append_ #[ST, ST] ty #[v, .slice (some ⟨e, 0, none⟩) 1 1]).run P W = .ok v' W' ∧ GrowG T sz hd ln At W' base v' (rs ++ [r]) (fun i => if i = rs.length then q else g i) ∧ W.grownBy W' v.ownBlock ∧ (v'.ownBlock = v.ownBlock ∨ v'.ownBlock = some W.heap.size) := by
  obtain ⟨caps, ho, hcs⟩ := h.row
  have hadd : ∀ (b o j : Nat), (⟨b, o, none⟩ : Addr).add j = ⟨b, o + j, none⟩ := fun b o j => by unfold Addr.add; split <;> simp_all
  obtain ⟨v', W', hrun, hown, hg, hnil, hlies⟩ := run_append_own_at (P := P) W base ST ty T i0 z sz by_ ht hi hz hs hby hzs (by have := hh r; omega)
    v rs.length _ ho ⟨e, 0, none⟩ 1 1 (cellsG hd ln r q cap) (by simp [cellsG, hh]) (fun j u hu => by rw [hadd, Nat.zero_add]; exact he j u hu)
    (fun u hu => by
      simp only [cellsG, List.mem_append, List.mem_map, List.mem_singleton] at hu
      rcases hu with ⟨x, _, rfl⟩ | rfl <;> rfl) (by unfold maxLen; omega) (by
      have : (rs.length + 1) * by_ ≤ 100001 * 1000 := Nat.mul_le_mul (by omega) hbb
      omega) hbase
  have far : ∀ x, x < W.heap.size → v.ownBlock ≠ some x → W'.heap[x]? = W.heap[x]? := fun x hx hne => hg.block x hx (fun e' => hne e'.symm)
  have nev : ∀ x, x < W.heap.size → v.ownBlock ≠ some x → v'.ownBlock ≠ some x := fun x hx hne => by
    rcases hlies with e' | e'
    · rw [e']; exact hne
    · rw [e']; intro e''; cases e''; omega
  have split : ∀ i y, (rs ++ [r])[i]? = some y → (i < rs.length ∧ rs[i]? = some y) ∨ (i = rs.length ∧ y = r) := fun i y e => by
    by_cases hi : i < rs.length
    · rw [List.getElem?_append_left hi] at e
      exact .inl ⟨hi, e⟩
    · rw [List.getElem?_append_right (by omega)] at e
      have h0 : i - rs.length = 0 := by
        rcases Nat.eq_zero_or_pos (i - rs.length) with h | h
        · exact h
        · rw [List.getElem?_eq_none (by simp; omega)] at e; cases e
      rw [h0] at e
      simp at e
      exact .inr ⟨by omega, e.symm⟩
  have hlen : (rs ++ [r]).length = rs.length + 1 := by simp
  refine ⟨v', W', hrun, ⟨⟨fun i => if i = rs.length then cap else caps i, by rw [flatG_snoc, hlen]; exact hown, fun i y e' => ?_⟩, fun i hi' => ?_, fun i hi' => ?_, fun i hi' => ?_, fun i y e' => ?_, fun i j hi' hj' ee => ?_⟩, hg, hlies⟩
  · rcases split i y e' with ⟨hi', e'⟩ | ⟨rfl, rfl⟩
    · show ln y ≤ if i = rs.length then cap else caps i
      rw [if_neg (by omega)]; exact hcs i y e'
    · show ln y ≤ if rs.length = rs.length then cap else caps rs.length
      rw [if_pos rfl]; exact hc
  · by_cases e' : i = rs.length
    · rw [if_pos e']; exact hq
    · rw [if_neg e']; exact h.low i (by omega)
  · by_cases e' : i = rs.length
    · rw [if_pos e']; exact Nat.lt_of_lt_of_le hql hg.size
    · rw [if_neg e']; exact Nat.lt_of_lt_of_le (h.lt i (by omega)) hg.size
  · by_cases e' : i = rs.length
    · rw [if_pos e']; exact nev q hql hn
    · rw [if_neg e']; exact nev _ (h.lt i (by omega)) (h.ne i (by omega))
  · rcases split i y e' with ⟨hi', e'⟩ | ⟨rfl, rfl⟩
    · rw [if_neg (by omega)]; exact hAt _ _ _ _ (far _ (h.lt i hi') (h.ne i hi')) (h.sub i y e')
    · rw [if_pos rfl]; exact hAt _ _ _ _ (far _ hql hn) hat
  · by_cases ei : i = rs.length <;> by_cases ek : j = rs.length
    · omega
    · simp only [if_pos ei, if_neg ek] at ee; exact absurd ee.symm (hf j (by omega))
    · simp only [if_neg ei, if_pos ek] at ee; exact absurd ee (hf i (by omega))
    · simp only [if_neg ei, if_neg ek] at ee; exact h.inj i j (by omega) (by omega) ee
end Go.Proofs.Ytcbfnajpcaipkaa