/- MkM; LawN; KdM; KdR: joined. -/
import Derived.Test.YtbkcmbbeknljiaaGreatRows
import Derived.Test.YtbkcmbbeknljiaaGreatJ12ExactReplace
import Derived.WalkKit
import Derived.WalkSpells
import Derived.WalkLawsBesides
import Derived.Below
import Derived.Test.YtbkcmbbeknljiaaGreatTurnAJ
import Derived.Test.YtbkcmbbeknljiaaGreatJ49ExactReplace
import Derived.Test.YtbkcmbbeknljiaaGreatJ27ExactReplace
/- Marks in a machine of a call's own. -/
namespace Go.Proofs.YtbkcmbbeknljiaaGreat
open Go.RowKit
set_option maxHeartbeats 2000000 in
theorem markMachine_any (w : World) (B : Nat) (v : MV) (m : M4) (PK PR PD : Nat → Prop) (k : Int) (hk : 0 ≤ k) (hk' : k ≤ 100000000) (ht : MT m) (h : OM w B v m PK PR PD) :
    Calls Tryz.prog 33 #[v.val m, .int .i64 k] w fun e w' => e = .returned (.int .i64 (endM m k)) ∧ KeptP (fun q => q < w.heap.size ∧ OfM PK PR PD q) w w' ∧ OM w' B v (mkM m k) (fun q => q < w.heap.size ∧ PK q) (fun q => q < w.heap.size ∧ PR q) (fun q => q < w.heap.size ∧ PD q) := by
  obtain ⟨ac, cc, al, cl, ad, cd⟩ := v
  simp only [MV.val]
  have b0 : Below w.heap.size w (w.alloc (.cells #[.bool m.alive, .slice ac m.copies.length cc, .slice al m.log.length cl, .slice ad m.cleared.length cd] 28)) := (Below.refl _ _).alloc (Nat.le_refl _) _
  have s0 : (w.alloc (.cells #[.bool m.alive, .slice ac m.copies.length cc, .slice al m.log.length cl, .slice ad m.cleared.length cd] 28)).heap.size = w.heap.size + 1 := by simp
  have lt : ∀ {α : Type} {sz : Nat} {hd : α → List Int} {ln : α → Nat} {At : World → Nat → α → Prop} {P : Nat → Prop} {a : Option Addr} {rs : List α}, OwnL sz hd ln At w P a rs → OwnL sz hd ln At w (fun q => q < w.heap.size ∧ P q) a rs := fun {α sz hd ln At P a rs} h => by
    rcases h with h | ⟨b, g, ha, hp, hg, hl, hr, ho⟩
    · exact .inl h
    · exact .inr ⟨b, g, ha, ⟨hl, hp⟩, fun i hi => ⟨ho.lt i hi, hg i hi⟩, hl, hr, ho⟩
  have h0 : OM w B ⟨ac, cc, al, cl, ad, cd⟩ m (fun q => q < w.heap.size ∧ PK q) (fun q => q < w.heap.size ∧ PR q) (fun q => q < w.heap.size ∧ PD q) :=
    ⟨lt h.k, lt h.r, by
      rcases h.n with h | ⟨b, ha, hp, hl, hn, hr⟩
      · exact .inl h
      · exact .inr ⟨b, ha, ⟨hl, hp⟩, hl, hn, hr⟩, fun q hq hr => h.kr q hq.2 hr.2, fun q hq hr => h.kd q hq.2 hr.2, fun q hq hr => h.rd q hq.2 hr.2, fun q hq => h.kB q hq.2, fun q hq => h.rB q hq.2, fun q hq => h.dB q hq.2⟩
  have hcell : ∀ (W : World), KeptP (fun q => q < w.heap.size ∧ OfM PK PR PD q) (w.alloc (.cells #[.bool m.alive, .slice ac m.copies.length cc, .slice al m.log.length cl, .slice ad m.cleared.length cd] 28)) W → W.cell? ⟨w.heap.size, 2, none⟩ = some (.slice al m.log.length cl) ∧ W.cell? ⟨w.heap.size, 3, none⟩ = some (.slice ad m.cleared.length cd) := fun W hW => by
    have hb := hW.block w.heap.size (by rw [s0]; omega) (fun e => by have := e.1; omega)
    exact ⟨(World.cell?_of_block (a := ⟨w.heap.size, 2, none⟩) hb).trans (by go_simp), (World.cell?_of_block (a := ⟨w.heap.size, 3, none⟩) hb).trans (by go_simp)⟩
  have H : Hid (OM (w.alloc (.cells #[.bool m.alive, .slice ac m.copies.length cc, .slice al m.log.length cl, .slice ad m.cleared.length cd] 28)) B ⟨ac, cc, al, cl, ad, cd⟩ m (fun q => q < w.heap.size ∧ PK q) (fun q => q < w.heap.size ∧ PR q) (fun q => q < w.heap.size ∧ PD q) ∧ MT m ∧ Below w.heap.size w (w.alloc (.cells #[.bool m.alive, .slice ac m.copies.length cc, .slice al m.log.length cl, .slice ad m.cleared.length cd] 28))) := ⟨h0.later b0, ht, b0⟩
  have HC : Hid (∀ (W : World), KeptP (fun q => q < w.heap.size ∧ OfM PK PR PD q) (w.alloc (.cells #[.bool m.alive, .slice ac m.copies.length cc, .slice al m.log.length cl, .slice ad m.cleared.length cd] 28)) W → W.cell? ⟨w.heap.size, 2, none⟩ = some (.slice al m.log.length cl) ∧ W.cell? ⟨w.heap.size, 3, none⟩ = some (.slice ad m.cleared.length cd)) := hcell
  clear h h0 lt b0 s0 hcell ht
  go_enter Tryz.func33, Tryz.ntmps33
  go_wp2_with fail
  generalize w.alloc (.cells #[.bool m.alive, .slice ac m.copies.length cc, .slice al m.log.length cl, .slice ad m.cleared.length cd] 28) = W at *
  refine (markK W _ ac cc m.copies k hk (by omega) H.out.2.1.tk H.out.2.1.k H.out.2.1.ks H.out.1.k).mono ?_
  rintro e w1 ⟨rfl, k1, o1⟩
  have x1 : endK m k = k + offG cK m.copies m.copies.length := rfl
  have x1b := H.out.2.1.tk
  have K1 : Hid (KeptP (fun q => q < w.heap.size ∧ OfM PK PR PD q) W w1 ∧ OwnL 2 hdK lnK AtK w1 (fun q => q < w.heap.size ∧ PK q) ac (mkKs m.copies k) ∧ OwnL 4 hdR lnR AtR w1 (fun q => q < w.heap.size ∧ PR q) al m.log ∧ OwnN w1 (fun q => q < w.heap.size ∧ PD q) ad m.cleared) :=
    ⟨k1.mono (fun q hq => ⟨hq.1, .inl hq.2⟩), o1, H.out.1.r.keep AtR.of_block k1.size (fun q hq hp => k1.block q hq (fun e => H.out.1.kr q e hp)), H.out.1.n.keep k1.size (fun q hq hp => k1.block q hq (fun e => H.out.1.kd q e hp))⟩
  clear k1 o1
  obtain ⟨c2, _⟩ := HC.out w1 K1.out.1
  rw [← x1]
  have hx1 : 0 ≤ endK m k ∧ endK m k ≤ 200000000 := by omega
  clear x1 x1b
  generalize hE : endK m k = E1 at *
  go_wp2_with fail
  refine (markR w1 _ al cl m.log E1 hx1.1 (by omega) H.out.2.1.tr H.out.2.1.r H.out.2.1.rs K1.out.2.2.1).mono ?_
  rintro e w2 ⟨rfl, k2, o2⟩
  have x2 : endR m k = E1 + offG cR m.log m.log.length := by rw [endR, hE]
  have x2b := H.out.2.1.tr
  have K2 : Hid (KeptP (fun q => q < w.heap.size ∧ OfM PK PR PD q) W w2 ∧ OwnL 2 hdK lnK AtK w2 (fun q => q < w.heap.size ∧ PK q) ac (mkKs m.copies k) ∧ OwnL 4 hdR lnR AtR w2 (fun q => q < w.heap.size ∧ PR q) al (mkRs m.log E1) ∧ OwnN w2 (fun q => q < w.heap.size ∧ PD q) ad m.cleared) :=
    ⟨K1.out.1.trans (k2.mono (fun q hq => ⟨hq.1, .inr (.inl hq.2)⟩)), K1.out.2.1.keep AtK.of_block k2.size (fun q hq hp => k2.block q hq (fun e => H.out.1.kr q hp e)), o2, K1.out.2.2.2.keep k2.size (fun q hq hp => k2.block q hq (fun e => H.out.1.rd q e hp))⟩
  clear k2 o2 c2
  obtain ⟨_, c3⟩ := HC.out w2 K2.out.1
  rw [← x2]
  have hx2 : 0 ≤ endR m k ∧ endR m k ≤ 300000000 := by omega
  clear x2 x2b
  generalize hE2 : endR m k = E2 at *
  go_wp2_with fail
  refine (markN w2 _ ad cd m.cleared E2 hx2.1 (by omega) H.out.2.1.n K2.out.2.2.2).mono ?_
  rintro e w3 ⟨rfl, k3, o3⟩
  have K3 : Hid (KeptP (fun q => q < w.heap.size ∧ OfM PK PR PD q) w w3 ∧ OM w3 B ⟨ac, cc, al, cl, ad, cd⟩ (mkM m k) (fun q => q < w.heap.size ∧ PK q) (fun q => q < w.heap.size ∧ PR q) (fun q => q < w.heap.size ∧ PD q)) :=
    ⟨((KeptP.of_below H.out.2.2).trans K2.out.1).trans (k3.mono (fun q hq => ⟨hq.1, .inr (.inr hq.2)⟩)), ⟨K2.out.2.1.keep AtK.of_block k3.size (fun q hq hp => k3.block q hq (fun e => H.out.1.kd q hp e)), by simp only [mkM, hE]; exact K2.out.2.2.1.keep AtR.of_block k3.size (fun q hq hp => k3.block q hq (fun e => H.out.1.rd q hp e)), by simp only [mkM, hE2]; exact o3, H.out.1.kr, H.out.1.kd, H.out.1.rd, H.out.1.kB, H.out.1.rB, H.out.1.dB⟩⟩
  clear k3 o3 c3
  have HE : Hid (endM m k = E2 + m.cleared.length) := by unfold Hid; rw [endM, hE2]
  go_wp2
  go_ret
  exact ⟨by rw [HE.out]; rfl, K3.out.1, K3.out.2⟩
end Go.Proofs.YtbkcmbbeknljiaaGreat
/- What the laws of an answered machine share. -/
namespace Go.Proofs.YtbkcmbbeknljiaaGreat
open Go.RowKit
theorem endM_nonneg (m : M4) : 0 ≤ endM m 1 := by unfold endM endR endK; omega
/-- A box that holds a machine, by its block. -/
structure BM (X : World) (s : Nat) (a : Option Addr) (b : Nat) (c : Option Addr) (d : Nat) (e : Option Addr) (f : Nat) (m : M4) : Prop where
  c0 : X.cell? ⟨s, 0, none⟩ = some (.bool m.alive)
  c1 : X.cell? ⟨s, 1, none⟩ = some (.slice a m.copies.length b)
  c2 : X.cell? ⟨s, 2, none⟩ = some (.slice c m.log.length d)
  c3 : X.cell? ⟨s, 3, none⟩ = some (.slice e m.cleared.length f)
theorem BM.of_block {X Y : World} {s : Nat} {a : Option Addr} {b : Nat} {c : Option Addr} {d : Nat} {e : Option Addr} {f : Nat} {m : M4} (h : BM X s a b c d e f m) (hb : Y.heap[s]? = X.heap[s]?) : BM Y s a b c d e f m :=
  ⟨(World.cell?_of_block (a := ⟨s, 0, none⟩) hb).trans h.c0, (World.cell?_of_block (a := ⟨s, 1, none⟩) hb).trans h.c1, (World.cell?_of_block (a := ⟨s, 2, none⟩) hb).trans h.c2, (World.cell?_of_block (a := ⟨s, 3, none⟩) hb).trans h.c3⟩
theorem szM_turn (t g : Int) (m : M4) : szM (tM t g m) = szM m := by
  have h : ∀ r, (trR t g r).sets = r.sets := fun r => by unfold trR; split <;> rfl
  simp [szM, tM, lensR, lensK, List.map_map, Function.comp_def, h]
theorem ansT_sz (m : M4) (t g : Int) (h : szM m ≤ 1048576) : szM (ansT m t g) ≤ 1048576 := by
  unfold ansT
  by_cases hB : machB m = true
  · rw [if_pos hB, szM_turn]; exact h
  · rw [if_neg hB]; simp [szM, lensK, lensR]
end Go.Proofs.YtbkcmbbeknljiaaGreat
/- The machine as a kind of data that a law hands over: marked, held. -/
namespace Go.Proofs.YtbkcmbbeknljiaaGreat
open Go.RowKit
theorem KM.mark (X : World) (B : Nat) (a : Option Addr) (b : Nat) (c : Option Addr) (d : Nat) (e : Option Addr) (f : Nat) (m : M4) (P : Nat → Prop) (k : Int) (hk : 0 ≤ k) (hk' : k ≤ 100000000) (ht : MT m) (h : KM.Ow X B a b c d e f m P) : Calls Tryz.prog 33 #[.agg #[.bool m.alive, .slice a m.copies.length b, .slice c m.log.length d, .slice e m.cleared.length f], .int .i64 k] X fun r w' => r = .returned (.int .i64 (endM m k)) ∧ KeptP P X w' ∧ SlM w' ⟨a, b, c, d, e, f⟩ (mkM m k) := by
  obtain ⟨PK, PR, PD, h1, h2, h3⟩ := h
  have hh := markMachine_any X B ⟨a, b, c, d, e, f⟩ m PK PR PD k hk hk' ht h1
  simp only [MV.val] at hh
  refine hh.mono ?_
  rintro r w' ⟨rfl, kp, o⟩
  exact ⟨rfl, kp.mono (fun q hq => h2 q hq.2), o.sl⟩
theorem KM.held (X : World) (a : Option Addr) (b : Nat) (c : Option Addr) (d : Nat) (e : Option Addr) (f : Nat) (m : M4) (k : Int) (hk : 0 ≤ k) (hk' : k ≤ 100000000) (ht : MT m) (h : SlM X ⟨a, b, c, d, e, f⟩ (mkM m k)) : Calls Tryz.prog 35 #[.agg #[.bool m.alive, .slice a m.copies.length b, .slice c m.log.length d, .slice e m.cleared.length f], .int .i64 k] X fun r w' => r = .returned (.int .i64 (endM m k)) ∧ Below X.heap.size X w' := by
  have hh := heldMachine_any X ⟨a, b, c, d, e, f⟩ m k hk hk' ht h
  simp only [MV.val] at hh
  exact hh
theorem endM_big (m : M4) (k : Int) : k ≤ endM m k := by unfold endM endR endK; omega
theorem endM_top (m : M4) (k : Int) (h : MT m) : endM m k ≤ k + 201048576 := by have h1 := h.tk; have h2 := h.tr; have h3 := h.n; unfold endM endR endK; omega
end Go.Proofs.YtbkcmbbeknljiaaGreat
/- The record as a kind of data that a law hands over. -/
namespace Go.Proofs.YtbkcmbbeknljiaaGreat
open Go.RowKit
def KR.L (r : R4) : Prop := r.sets.length ≤ maxLen
/-- A record of a call's own, in the blocks P. -/
def KR.Ow (w : World) (B : Nat) (a : Option Addr) (_ : Nat) (r : R4) (P : Nat → Prop) : Prop := (r.sets = [] ∨ ∃ q, a = some ⟨q, 0, none⟩ ∧ P q ∧ SetsAt w q 0 r.sets ∧ Room w q (r.sets.length * 5)) ∧ (∀ q, P q → B ≤ q ∧ q < w.heap.size)
def KR.Rd (X : World) (a : Option Addr) (_ : Nat) (r : R4) : Prop := Sl X X.heap.size a r.sets.length r.sets
theorem KR.Rd.later {X Y : World} {a : Option Addr} {c : Nat} {r : R4} (h : KR.Rd X a c r) (hb : Below X.heap.size X Y) : KR.Rd Y a c r := (Sl.below h hb).mono hb.size
theorem KR.Ow.of {w : World} {B : Nat} {a : Option Addr} {c : Nat} {r : R4} {P : Nat → Prop} (h : KR.Ow w B a c r P) {q : Nat} (hq : P q) : B ≤ q ∧ q < w.heap.size := h.2 q hq
theorem KR.Ow.sl {w : World} {B : Nat} {a : Option Addr} {c : Nat} {r : R4} {P : Nat → Prop} (h : KR.Ow w B a c r P) : KR.Rd w a c r := by
  obtain ⟨h1, h2⟩ := h
  rcases h1 with e | ⟨q, rfl, hq, hs, _⟩
  · exact ⟨rfl, .inl (by rw [e]; rfl)⟩
  · exact ⟨rfl, .inr ⟨q, 0, rfl, (h2 q hq).2, hs⟩⟩
theorem KR.Ow.keep {w w' : World} {B : Nat} {a : Option Addr} {c : Nat} {r : R4} {P : Nat → Prop} (h : KR.Ow w B a c r P) (hs : w.heap.size ≤ w'.heap.size) (hk : ∀ q, P q → w'.heap[q]? = w.heap[q]?) : KR.Ow w' B a c r P := by
  obtain ⟨h1, h2⟩ := h
  refine ⟨?_, fun q hq => ⟨(h2 q hq).1, Nat.lt_of_lt_of_le (h2 q hq).2 hs⟩⟩
  rcases h1 with e | ⟨q, rfl, hq, h3, h4⟩
  · exact .inl e
  · exact .inr ⟨q, rfl, hq, h3.of_block (hk q hq), h4.of_block (hk q hq)⟩
theorem KR.Ow.later {w w' : World} {B : Nat} {a : Option Addr} {c : Nat} {r : R4} {P : Nat → Prop} (h : KR.Ow w B a c r P) (hb : Below w.heap.size w w') : KR.Ow w' B a c r P := h.keep hb.size (fun q hq => hb.block q (h.of hq).2)
theorem KR.to (X : World) (a : Option Addr) (c : Nat) (r : R4) (ht : r.sets.length ≤ 1048576) (h : KR.Rd X a c r) : Calls Tryz.prog 37 #[.agg #[.int .i64 r.kind, .int .i64 r.tx, .int .i64 r.region, .slice a r.sets.length c]] X fun e w' =>
    ∃ (a : Option Addr) (c : Nat) (P : Nat → Prop), e = .returned (.agg #[.int .i64 r.kind, .int .i64 r.tx, .int .i64 r.region, .slice a r.sets.length c]) ∧ KR.Ow w' X.heap.size a c r P ∧ Below X.heap.size X w' := by
  refine (toRecord_anyR X r.kind r.tx r.region a r.sets.length c r.sets ht h).mono ?_
  rintro e w' ⟨g, rfl, b, h1, h2, h3, h4⟩
  exact ⟨some ⟨g, 0, none⟩, r.sets.length, fun q => q = g, rfl, ⟨.inr ⟨g, rfl, rfl, h3, h4⟩, fun q e => by subst e; exact ⟨h1, h2⟩⟩, b⟩
theorem KR.eq (X : World) (a : Option Addr) (c : Nat) (a' : Option Addr) (c' : Nat) (r : R4) (ht : r.sets.length ≤ 1048576) (h1 : KR.Rd X a c r) (h2 : KR.Rd X a' c' r) : Calls Tryz.prog 38 #[.agg #[.int .i64 r.kind, .int .i64 r.tx, .int .i64 r.region, .slice a r.sets.length c], .agg #[.int .i64 r.kind, .int .i64 r.tx, .int .i64 r.region, .slice a' r.sets.length c']] X fun e w' => e = .returned (.bool true) ∧ Below X.heap.size X w' :=
  eqRecord_same X r.kind r.tx r.region a a' r.sets.length c c' r.sets (by unfold maxLen; omega) h1 h2
set_option maxHeartbeats 1000000 in
theorem KR.mark (X : World) (B : Nat) (a : Option Addr) (c : Nat) (r : R4) (P : Nat → Prop) (k : Int) (hk : 0 ≤ k) (hk' : k ≤ 1000000000) (ht : r.sets.length ≤ 1048576) (h : KR.Ow X B a c r P) : Calls Tryz.prog 39 #[.agg #[.int .i64 r.kind, .int .i64 r.tx, .int .i64 r.region, .slice a r.sets.length c], .int .i64 k] X fun e w' => e = .returned (.int .i64 (k + 5 * (r.sets.length : Int))) ∧ KeptP P X w' := by
  obtain ⟨W, hW⟩ : ∃ W, W = X.alloc (.cells #[.int .i64 r.kind, .int .i64 r.tx, .int .i64 r.region, .slice a r.sets.length c] 41) := ⟨_, rfl⟩
  have b0 : Below X.heap.size X W := by rw [hW]; exact (Below.refl _ _).alloc (Nat.le_refl _) _
  have h0 := h.later b0
  have hm : Calls Tryz.prog 97 #[.slice a r.sets.length c, .int .i64 k] W fun e w' => e = .returned (.int .i64 (k + 5 * (r.sets.length : Int))) ∧ KeptP P W w' := by
    obtain ⟨h1, _⟩ := h0
    by_cases e : r.sets = []
    · rw [e]
      refine (markSetS_nil W a c k).mono ?_
      rintro e w' ⟨rfl, rfl⟩
      exact ⟨by simp, KeptP.refl _ _⟩
    · rcases h1 with h1 | ⟨q, rfl, hq, h3, h4⟩
      · exact absurd h1 e
      refine (markSetS_k W q r.sets.length c k ht hk hk' h4).mono ?_
      rintro e' w' ⟨rfl, ho, _, _⟩
      exact ⟨rfl, KeptP.of_only ho hq⟩
  have B0 := hidOf b0
  clear b0 h h0 ht
  go_enter Tryz.func39, Tryz.ntmps39
  go_wp2_with fail
  rw [← hW]
  clear hW
  refine hm.mono ?_
  clear hm
  rintro e w1 ⟨rfl, k1⟩
  have K : Hid (KeptP P X w1) := (KeptP.of_below B0.out).trans k1
  clear k1
  go_wp2
  go_ret
  exact ⟨rfl, K.out⟩
end Go.Proofs.YtbkcmbbeknljiaaGreat
