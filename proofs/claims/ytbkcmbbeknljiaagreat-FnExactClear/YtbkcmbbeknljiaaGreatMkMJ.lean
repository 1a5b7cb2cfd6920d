/- Marks in a machine of a call's own. -/
import Derived.Test.YtbkcmbbeknljiaaGreatRows
import Derived.Test.YtbkcmbbeknljiaaGreatMkDJ
import Derived.WalkKit
import Derived.WalkSpells
import Derived.WalkLawsBesides
import Derived.Below
namespace Go.Proofs.YtbkcmbbeknljiaaGreat
open Go.RowKit
set_option maxHeartbeats 2000000 in
theorem markMachine_any (w : World) (B : Nat) (v : MV) (m : M4) (PK PR PD : Nat → Prop) (k : Int) (hk : 0 ≤ k) (hk' : k ≤ 100000000) (ht : MT m) (h : OM w B v m PK PR PD) :
    Calls Tryz.prog 33 #[v.val m, .int .i64 k] w fun e w' => e = .returned (.int .i64 (endM m k)) ∧ KeptP (fun q => q < w.heap.size ∧ OfM PK PR PD q) w w' ∧ OM w' B v (mkM m k) (fun q => q < w.heap.size ∧ PK q) (fun q => q < w.heap.size ∧ PR q) (fun q => q < w.heap.size ∧ PD q) := by
  obtain ⟨ac, cc, al, cl, ad, cd⟩ := v
  simp only [MV.val]
  have b0 : Below w.heap.size w (w.alloc (.cells #[.bool m.alive, .slice ac m.copies.length cc, .slice al m.log.length cl, .slice ad m.cleared.length cd] 28)) := (Below.refl _ _).alloc (Nat.le_refl _) _
  have s0 : (w.alloc (.cells #[.bool m.alive, .slice ac m.copies.length cc, .slice al m.log.length cl, .slice ad m.cleared.length cd] 28)).heap.size = w.heap.size + 1 := by simp
  have lt : ∀ {α : Type} {sz : Nat} {hd : α → List Int} {ln : α → Nat} {At : World → Nat → α → Prop} {P : Nat → Prop} {a : Option Addr} {rs : List α}, OwnL sz hd ln At w P a rs → OwnL sz hd ln At w (fun q => q < w.heap.size ∧ P q) a rs := fun {α sz hd ln At P a rs} h => by
    rcases h with h | ⟨b, g, ha, hp, hg, hl, hr, ho⟩
    · exact .inl h
    · exact .inr ⟨b, g, ha, ⟨hl, hp⟩, fun i hi => ⟨ho.lt i hi, hg i hi⟩, hl, hr, ho⟩
  have h0 : OM w B ⟨ac, cc, al, cl, ad, cd⟩ m (fun q => q < w.heap.size ∧ PK q) (fun q => q < w.heap.size ∧ PR q) (fun q => q < w.heap.size ∧ PD q) :=
    ⟨lt h.k, lt h.r, by
      rcases h.n with h | ⟨b, ha, hp, hl, hn, hr⟩
      · exact .inl h
      · exact .inr ⟨b, ha, ⟨hl, hp⟩, hl, hn, hr⟩, fun q hq hr => h.kr q hq.2 hr.2, fun q hq hr => h.kd q hq.2 hr.2, fun q hq hr => h.rd q hq.2 hr.2, fun q hq => h.kB q hq.2, fun q hq => h.rB q hq.2, fun q hq => h.dB q hq.2⟩
  have hcell : ∀ (W : World), KeptP (fun q => q < w.heap.size ∧ OfM PK PR PD q) (w.alloc (.cells #[.bool m.alive, .slice ac m.copies.length cc, .slice al m.log.length cl, .slice ad m.cleared.length cd] 28)) W → W.cell? ⟨w.heap.size, 2, none⟩ = some (.slice al m.log.length cl) ∧ W.cell? ⟨w.heap.size, 3, none⟩ = some (.slice ad m.cleared.length cd) := fun W hW => by
    have hb := hW.block w.heap.size (by rw [s0]; omega) (fun e => by have := e.1; omega)
    exact ⟨(World.cell?_of_block (a := ⟨w.heap.size, 2, none⟩) hb).trans (by go_simp), (World.cell?_of_block (a := ⟨w.heap.size, 3, none⟩) hb).trans (by go_simp)⟩
  have H : Hid (OM (w.alloc (.cells #[.bool m.alive, .slice ac m.copies.length cc, .slice al m.log.length cl, .slice ad m.cleared.length cd] 28)) B ⟨ac, cc, al, cl, ad, cd⟩ m (fun q => q < w.heap.size ∧ PK q) (fun q => q < w.heap.size ∧ PR q) (fun q => q < w.heap.size ∧ PD q) ∧ MT m ∧ Below w.heap.size w (w.alloc (.cells #[.bool m.alive, .slice ac m.copies.length cc, .slice al m.log.length cl, .slice ad m.cleared.length cd] 28))) := ⟨h0.later b0, ht, b0⟩
  have HC : Hid (∀ (W : World), KeptP (fun q => q < w.heap.size ∧ OfM PK PR PD q) (w.alloc (.cells #[.bool m.alive, .slice ac m.copies.length cc, .slice al m.log.length cl, .slice ad m.cleared.length cd] 28)) W → W.cell? ⟨w.heap.size, 2, none⟩ = some (.slice al m.log.length cl) ∧ W.cell? ⟨w.heap.size, 3, none⟩ = some (.slice ad m.cleared.length cd)) := hcell
  clear h h0 lt b0 s0 hcell ht
  go_enter Tryz.func33, Tryz.ntmps33
  go_wp2_with fail
  generalize w.alloc (.cells #[.bool m.alive, .slice ac m.copies.length cc, .slice al m.log.length cl, .slice ad m.cleared.length cd] 28) = W at *
  refine (markK W _ ac cc m.copies k hk (by omega) H.out.2.1.tk H.out.2.1.k H.out.2.1.ks H.out.1.k).mono ?_
  rintro e w1 ⟨rfl, k1, o1⟩
  have x1 : endK m k = k + offG cK m.copies m.copies.length := rfl
  have x1b := H.out.2.1.tk
  have K1 : Hid (KeptP (fun q => q < w.heap.size ∧ OfM PK PR PD q) W w1 ∧ OwnL 2 hdK lnK AtK w1 (fun q => q < w.heap.size ∧ PK q) ac (mkKs m.copies k) ∧ OwnL 4 hdR lnR AtR w1 (fun q => q < w.heap.size ∧ PR q) al m.log ∧ OwnN w1 (fun q => q < w.heap.size ∧ PD q) ad m.cleared) :=
    ⟨k1.mono (fun q hq => ⟨hq.1, .inl hq.2⟩), o1, H.out.1.r.keep AtR.of_block k1.size (fun q hq hp => k1.block q hq (fun e => H.out.1.kr q e hp)), H.out.1.n.keep k1.size (fun q hq hp => k1.block q hq (fun e => H.out.1.kd q e hp))⟩
  clear k1 o1
  obtain ⟨c2, _⟩ := HC.out w1 K1.out.1
  rw [← x1]
  have hx1 : 0 ≤ endK m k ∧ endK m k ≤ 200000000 := by omega
  clear x1 x1b
  generalize hE : endK m k = E1 at *
  go_wp2_with fail
  refine (markR w1 _ al cl m.log E1 hx1.1 (by omega) H.out.2.1.tr H.out.2.1.r H.out.2.1.rs K1.out.2.2.1).mono ?_
  rintro e w2 ⟨rfl, k2, o2⟩
  have x2 : endR m k = E1 + offG cR m.log m.log.length := by rw [endR, hE]
  have x2b := H.out.2.1.tr
  have K2 : Hid (KeptP (fun q => q < w.heap.size ∧ OfM PK PR PD q) W w2 ∧ OwnL 2 hdK lnK AtK w2 (fun q => q < w.heap.size ∧ PK q) ac (mkKs m.copies k) ∧ OwnL 4 hdR lnR AtR w2 (fun q => q < w.heap.size ∧ PR q) al (mkRs m.log E1) ∧ OwnN w2 (fun q => q < w.heap.size ∧ PD q) ad m.cleared) :=
    ⟨K1.out.1.trans (k2.mono (fun q hq => ⟨hq.1, .inr (.inl hq.2)⟩)), K1.out.2.1.keep AtK.of_block k2.size (fun q hq hp => k2.block q hq (fun e => H.out.1.kr q hp e)), o2, K1.out.2.2.2.keep k2.size (fun q hq hp => k2.block q hq (fun e => H.out.1.rd q e hp))⟩
  clear k2 o2 c2
  obtain ⟨_, c3⟩ := HC.out w2 K2.out.1
  rw [← x2]
  have hx2 : 0 ≤ endR m k ∧ endR m k ≤ 300000000 := by omega
  clear x2 x2b
  generalize hE2 : endR m k = E2 at *
  go_wp2_with fail
  refine (markN w2 _ ad cd m.cleared E2 hx2.1 (by omega) H.out.2.1.n K2.out.2.2.2).mono ?_
  rintro e w3 ⟨rfl, k3, o3⟩
  have K3 : Hid (KeptP (fun q => q < w.heap.size ∧ OfM PK PR PD q) w w3 ∧ OM w3 B ⟨ac, cc, al, cl, ad, cd⟩ (mkM m k) (fun q => q < w.heap.size ∧ PK q) (fun q => q < w.heap.size ∧ PR q) (fun q => q < w.heap.size ∧ PD q)) :=
    ⟨((KeptP.of_below H.out.2.2).trans K2.out.1).trans (k3.mono (fun q hq => ⟨hq.1, .inr (.inr hq.2)⟩)), ⟨K2.out.2.1.keep AtK.of_block k3.size (fun q hq hp => k3.block q hq (fun e => H.out.1.kd q hp e)), by simp only [mkM, hE]; exact K2.out.2.2.1.keep AtR.of_block k3.size (fun q hq hp => k3.block q hq (fun e => H.out.1.rd q hp e)), by simp only [mkM, hE2]; exact o3, H.out.1.kr, H.out.1.kd, H.out.1.rd, H.out.1.kB, H.out.1.rB, H.out.1.dB⟩⟩
  clear k3 o3 c3
  have HE : Hid (endM m k = E2 + m.cleared.length) := by unfold Hid; rw [endM, hE2]
  go_wp2
  go_ret
  exact ⟨by rw [HE.out]; rfl, K3.out.1, K3.out.2⟩
end Go.Proofs.YtbkcmbbeknljiaaGreat
