/- What the specification's Remap answers where its arguments are as told. -/
import Derived.Test.YtgohihcpmjfhdaaRows
import Derived.Test.YtgohihcpmjfhdaaRemapA
import Derived.WalkKit
import Derived.WalkSpells
import Derived.WalkLawsBesides
import Derived.Below
import Derived.Deep.RegionHeldLaw
namespace Go.Proofs.Ytgohihcpmjfhdaa
open Go.RowKit
theorem places_row {zss : List (List Int)} {i : Nat} (h : placesB zss = true) (hi : i < zss.length) : 1 ≤ (atP zss i).length ∧ (atP zss i).length ≤ 3 ∧ ∀ k, k < (atP zss i).length → 0 ≤ atN (atP zss i) k ∧ atN (atP zss i) k ≤ 7 := by
  simp only [placesB, Bool.and_eq_true] at h
  have := List.all_eq_true.1 h.2 i (List.mem_range.2 hi)
  simp only [placeB, Bool.and_eq_true, decide_eq_true_eq] at this
  refine ⟨this.1.1, this.1.2, fun k hk => ?_⟩
  have hg := List.all_eq_true.1 this.2 k (List.mem_range.2 hk)
  simp only [goodAt, Bool.and_eq_true, inB_iff] at hg
  exact hg.1
/-- What is known at the head of each round. -/
structure RS (w wr : World) (al : List Bool) (zss : List (List Int)) (vl vo : Value) (g : Nat → Nat) (j : Nat) : Prop where
  out : OutP wr w.heap.size vo (remapN al zss j) g
  lost : ON wr w.heap.size vl (lostN al zss j)
  nvo : vo ≠ .slice none 0 0
  nvl : vl ≠ .slice none 0 0
  ap1 : vl.ownBlock ≠ vo.ownBlock
  ap2 : ∀ i, i < j → vl.ownBlock ≠ some (g i)
  bel : Below w.heap.size w wr
theorem rs_begin {w w1 : World} (al : List Bool) (zss : List (List Int)) (b1 : Below (w.heap.size + 2) ((w.alloc (.cells #[] 2)).alloc (.cells #[] 40)) w1) :
    RS w w1 al zss (.slice (some ⟨w.heap.size, 0, none⟩) 0 0) (.slice (some ⟨w.heap.size + 1, 0, none⟩) 0 0) (fun _ => 0) 0 := by
  have e1 : (w.alloc (.cells #[] 2)).heap.size = w.heap.size + 1 := by simp
  have e2 : ((w.alloc (.cells #[] 2)).alloc (.cells #[] 40)).heap.size = w.heap.size + 2 := by simp
  have ho := OutP.empty (w.alloc (.cells #[] 2)) w.heap.size (by omega) (fun _ => 0)
  rw [e1] at ho
  rw [← e2] at b1
  have hl := ((ON.empty w).below ((Below.refl _ _).alloc (Nat.le_refl _) (.cells #[] 40))).below b1
  have b0 : Below w.heap.size w ((w.alloc (.cells #[] 2)).alloc (.cells #[] 40)) := ((Below.refl _ _).alloc (Nat.le_refl _) _).alloc (by simp) _
  exact ⟨ho.below b1, hl, by simp, by simp, by simp [Value.ownBlock], fun i hi => by omega, b0.trans (b1.mono b0.size)⟩
/-- A region that keeps some of its machines: its new row (in block q, its value in block e) is appended. -/
theorem RS.keep {w W1 W : World} {al : List Bool} {zss : List (List Int)} {vl vo : Value} {g : Nat → Nat} {j : Nat} (h : RS w W1 al zss vl vo g j) (hb : Below W1.heap.size W1 W) (hj : j ≤ 6) (hk : keepL al (atP zss j) ≠ []) (e q cap : Nat)
    (he : W.cell? ⟨e, 0, none⟩ = some (.slice (some ⟨q, 0, none⟩) (rowR al (atP zss j)).length cap)) (hcp : (rowR al (atP zss j)).length ≤ cap) (hq : W1.heap.size ≤ q) (hl : q < W.heap.size) (hx : NumsAt W q 0 (rowR al (atP zss j))) (hr : Room W q (rowR al (atP zss j)).length) :
    ∃ v' W' g', (Builtin.append_ #[24, 24] 24 #[vo, .slice (some ⟨e, 0, none⟩) 1 1]).run Try.prog W = .ok v' W' ∧ RS w W' al zss vl v' g' (j + 1) := by
  have hs := h.bel.size
  have hsW := hb.size
  have hO := h.out.below hb
  obtain ⟨v', W', hrun, ho, hg, hlies, hnv⟩ := hO.push (rowR al (atP zss j)) q cap (by rw [remapN_len]; omega) 24 he hcp (by omega) hl (fun e' => by have := (h.out.lies e').2; omega) hx hr (fun i hi e' => by have := h.out.lt i hi; omega) (by omega)
  refine ⟨v', W', _, hrun, ⟨by rw [remapN_succ]; exact ho, ?_, hnv, h.nvl, ?_, fun i hi => ?_, ?_⟩⟩
  · rw [lostN_succ, if_neg hk]
    exact (h.lost.below hb).grown hg h.ap1
  · rcases hlies with e' | e'
    · rw [e']; exact h.ap1
    · rw [e']; intro e''; have := (World.ownsRow.lt h.lost _ e'').2; omega
  · show vl.ownBlock ≠ some (if i = (remapN al zss j).length then q else g i)
    rw [remapN_len]
    by_cases e' : i = j
    · rw [if_pos e']; intro e''; have := (World.ownsRow.lt h.lost _ e'').2; omega
    · rw [if_neg e']; exact h.ap2 i (by omega)
  · exact (h.bel.trans (hb.mono hs)).grown hg (by omega) (fun x e' => (h.out.lies e').1)
/-- A region that lost all of its machines: it is told, and its row is copied. -/
theorem RS.lose {w W1 wr : World} {al : List Bool} {zss : List (List Int)} {vl vo : Value} {g : Nat → Nat} {j : Nat} (h : RS w W1 al zss vl vo g j) (hb : Below W1.heap.size W1 wr) (hj : j ≤ 6) (hk : keepL al (atP zss j) = []) (hz : (atP zss j).length ≤ 3) (b' off' cap'' : Nat) (hb' : b' < w.heap.size) (hx : NumsAt w b' off' (atP zss j)) :
    ∃ vl' Wa q cp Wc vo' We g', (Builtin.append_ #[28, 28] 28 #[vl, .slice (some ⟨wr.heap.size, 0, none⟩) 1 1]).run Try.prog (wr.alloc (.cells #[.int .i64 (j : Int)] 2)) = .ok vl' Wa
      ∧ (Builtin.append_ #[28, 28] 28 #[.slice (some ⟨Wa.heap.size, 0, none⟩) 0 0, .slice (some ⟨b', off', none⟩) (atP zss j).length cap'']).run Try.prog (Wa.alloc (.cells #[] 2)) = .ok (.slice (some ⟨q, 0, none⟩) (atP zss j).length cp) Wc
      ∧ (Builtin.append_ #[24, 24] 24 #[vo, .slice (some ⟨Wc.heap.size, 0, none⟩) 1 1]).run Try.prog (Wc.alloc (.cells #[.slice (some ⟨q, 0, none⟩) (atP zss j).length cp] 40)) = .ok vo' We
      ∧ RS w We al zss vl' vo' g' (j + 1) ∧ Below w.heap.size w Wa := by
  have hs := h.bel.size
  have hsr := hb.size
  have bW : Below W1.heap.size W1 (wr.alloc (.cells #[.int .i64 (j : Int)] 2)) := hb.alloc hb.size _
  have sW : (wr.alloc (.cells #[.int .i64 (j : Int)] 2)).heap.size = wr.heap.size + 1 := by simp
  have cz : NumsAt (wr.alloc (.cells #[.int .i64 (j : Int)] 2)) wr.heap.size 0 [(j : Int)] := fun i x e => by
    cases i with
    | zero => simp at e; subst e; go_simp
    | succ i => simp at e
  have hll := lostN_len al zss j
  obtain ⟨vl', Wa, ra, hla, hga, liesa⟩ := on_append (wr.alloc (.cells #[.int .i64 (j : Int)] 2)) w.heap.size vl (lostN al zss j) [(j : Int)] wr.heap.size 0 1 28 (h.lost.below bW) cz (by simp; omega) (by omega)
  have hsa := hga.size
  have hO := (h.out.below bW).grown hga h.ap1.symm (fun i hi => h.ap2 i (by rw [remapN_len] at hi; exact hi))
  have ba : Below w.heap.size w Wa := (h.bel.trans (bW.mono hs)).grown hga (by omega) (fun x e => (World.ownsRow.lt h.lost x e).1)
  have vlt : ∀ x, vl'.ownBlock = some x → x < Wa.heap.size := fun x e => (World.ownsRow.lt hla x e).2
  have vlo : ∀ x, vl'.ownBlock = some x → vl.ownBlock = some x ∨ W1.heap.size ≤ x := fun x e => by
    rcases liesa with e' | e'
    · exact .inl (e'.symm.trans e)
    · rw [e'] at e; cases e; right; omega
  have bb : Below Wa.heap.size Wa (Wa.alloc (.cells #[] 2)) := (Below.refl _ _).alloc (Nat.le_refl _) _
  have sb : (Wa.alloc (.cells #[] 2)).heap.size = Wa.heap.size + 1 := by simp
  have b0b : Below w.heap.size w (Wa.alloc (.cells #[] 2)) := ba.alloc ba.size _
  have hsaw := ba.size
  obtain ⟨v79, Wc, rb, hlc, hgc, liesc⟩ := on_append (Wa.alloc (.cells #[] 2)) w.heap.size (.slice (some ⟨Wa.heap.size, 0, none⟩) 0 0) [] (atP zss j) b' off' cap'' 28 ((ON.empty Wa).lower hsaw) (hx.below b0b hb') (by simp; omega) (by omega)
  have hsc := hgc.size
  rw [List.nil_append] at hlc
  obtain ⟨q, cp, rfl, hq1, hq2, hqc, hqn, hqr⟩ : ∃ q cp, v79 = .slice (some ⟨q, 0, none⟩) (atP zss j).length cp ∧ Wa.heap.size ≤ q ∧ q < Wc.heap.size ∧ (atP zss j).length ≤ cp ∧ NumsAt Wc q 0 (atP zss j) ∧ Room Wc q (atP zss j).length := by
    rcases hlc.form with ⟨rfl, _⟩ | ⟨q, cp, rfl, _, h2, h3, h4, h5⟩
    · rcases liesc with e | e <;> cases e
    · refine ⟨q, cp, rfl, ?_, h2, h3, h4, h5⟩
      rcases liesc with e | e
      · have : q = Wa.heap.size := Option.some.inj e
        omega
      · have : q = (Wa.alloc (.cells #[] 2)).heap.size := Option.some.inj e
        omega
  have hO2 := (hO.below bb).grown hgc (fun e => by have := (hO.lies (q := Wa.heap.size) e).2; omega) (fun i hi e => by have := hO.lt i hi; have : Wa.heap.size = g i := Option.some.inj e; omega)
  have hL2 : ON Wc w.heap.size vl' (lostN al zss j ++ [(j : Int)]) := (hla.below bb).grown hgc (fun e => by have := vlt Wa.heap.size e; omega)
  have bd : Below Wc.heap.size Wc (Wc.alloc (.cells #[.slice (some ⟨q, 0, none⟩) (atP zss j).length cp] 40)) := (Below.refl _ _).alloc (Nat.le_refl _) _
  have sd : (Wc.alloc (.cells #[.slice (some ⟨q, 0, none⟩) (atP zss j).length cp] 40)).heap.size = Wc.heap.size + 1 := by simp
  have hrow : rowR al (atP zss j) = atP zss j := by rw [rowR, if_pos hk]
  obtain ⟨vo', We, rc, ho, hgo, lieso, hnv⟩ := (hO2.below bd).push (e := Wc.heap.size) (atP zss j) q cp (by rw [remapN_len]; omega) 24 (by go_simp) hqc (by omega) (by omega) (fun e => by have := (hO.lies e).2; omega) (hqn.below bd hq2) (hqr.below bd hq2) (fun i hi e => by have := hO.lt i hi; omega) (by omega)
  have bc : Below w.heap.size w Wc := b0b.grown hgc (by omega) (fun x e => by have : Wa.heap.size = x := Option.some.inj e; omega)
  have hne : vl'.ownBlock ≠ vo.ownBlock := fun e => by
    cases hvo : vo.ownBlock with
    | none =>
      rw [hvo] at e
      rcases liesa with e' | e'
      · exact h.ap1 (by rw [← e', e, hvo])
      · rw [e'] at e; cases e
    | some x =>
      rw [hvo] at e
      rcases vlo x e with e' | e'
      · exact h.ap1 (e'.trans hvo.symm)
      · have := (h.out.lies hvo).2; omega
  refine ⟨vl', Wa, q, cp, Wc, vo', We, _, ra, rb, rc, ⟨by rw [remapN_succ, hrow]; exact ho, ?_, hnv, ?_, ?_, fun i hi => ?_, ?_⟩, ba⟩
  · rw [lostN_succ, if_pos hk]
    exact (hL2.below bd).grown hgo hne
  · intro e
    have := hla.form
    rcases this with ⟨_, e'⟩ | ⟨x, y, e', _⟩
    · simp at e'
    · rw [e] at e'; cases e'
  · rcases lieso with e | e
    · rw [e]; exact hne
    · rw [e]; intro e'; have := vlt _ e'; omega
  · show vl'.ownBlock ≠ some (if i = (remapN al zss j).length then q else g i)
    rw [remapN_len]
    by_cases e : i = j
    · rw [if_pos e]; intro e'; have := vlt _ e'; omega
    · rw [if_neg e]; intro e'
      rcases vlo _ e' with e'' | e''
      · exact h.ap2 i (by omega) e''
      · have := h.out.lt i (by rw [remapN_len]; omega); omega
  · exact (bc.trans (bd.mono bc.size)).grown hgo (by have := bc.size; omega) (fun x e => (h.out.lies e).1)
set_option maxRecDepth 100000 in
set_option maxHeartbeats 8000000 in
theorem specRemap_in (w : World) (a : Option Addr) (n cap : Nat) (zss : List (List Int)) (a' : Option Addr) (n' cap' : Nat) (al : List Bool) (hn : n ≤ maxLen) (hs : SlP w w.heap.size a n zss) (hs' : SlB w w.heap.size a' n' al) (hok : placesB zss = true) (hal : n' ≤ 8) :
    Calls Try.prog 12 #[.slice a n cap, .slice a' n' cap'] w fun e w' => ∃ b cp g q cq, e = .returned (.tuple #[.slice (some ⟨b, 0, none⟩) n cp, .slice (some ⟨q, 0, none⟩) (lostN al zss n).length cq]) ∧ OwnP w' w.heap.size b n (remapN al zss n) g ∧ b < w'.heap.size
      ∧ ON w' w.heap.size (.slice (some ⟨q, 0, none⟩) (lostN al zss n).length cq) (lostN al zss n) ∧ q ≠ b ∧ (∀ i, i < n → g i ≠ q) ∧ Below w.heap.size w w' := by
  have hx := hs.1
  have hd8 : decide ((8 : Int) < (n' : Int)) = false := by simp; omega
  have HP : Hid (∀ i, i < n → 1 ≤ (atP zss i).length ∧ (atP zss i).length ≤ 3 ∧ ∀ k, k < (atP zss i).length → 0 ≤ atN (atP zss i) k ∧ atN (atP zss i) k ≤ 7) := fun i hi => places_row hok (by omega)
  have hn6 : n ≤ 6 := by simp only [placesB, Bool.and_eq_true, decide_eq_true_eq] at hok; omega
  have b0 : Below w.heap.size w ((w.alloc (.cells #[] 2)).alloc (.cells #[] 40)) := ((Below.refl _ _).alloc (Nat.le_refl _) _).alloc (by simp) _
  have HSL : Hid (SlP w w.heap.size a n zss ∧ SlB w w.heap.size a' n' al) := ⟨hs, hs'⟩
  go_enter Try.func12, Try.ntmps12
  go_wp2_with fail
  have hpo := specPlacesOk_any ((w.alloc (.cells #[] 2)).alloc (.cells #[] 40)) a n cap zss hn (hs.later b0)
  rw [hok] at hpo
  refine hpo.mono ?_
  clear hpo hs hs' hok b0
  rintro e w1 ⟨rfl, b1⟩
  have R0 : Hid (RS w w1 al zss (.slice (some ⟨w.heap.size, 0, none⟩) 0 0) (.slice (some ⟨w.heap.size + 1, 0, none⟩) 0 0) (fun _ => 0) 0) := rs_begin al zss (by simpa using b1)
  clear b1
  go_wp2
  go_loopw [6, 7, 8] (fun v6 v7 v8 wr => ∃ (j : Nat) (g : Nat → Nat), j ≤ n ∧ v8 = .int .i64 j ∧ RS w wr al zss v6 v7 g j) (fun _ _ v8 _ => n - (intOf v8).toNat)
  case atStart => exact ⟨0, _, Nat.zero_le _, rfl, R0.out⟩
  case round =>
    obtain ⟨j, g, hj, rfl, hrs⟩ := hrel
    clear R0
    by_cases hlt : j < n
    · obtain ⟨l1, l3, hrow⟩ := HP.out j hlt
      obtain ⟨⟨_, hsp⟩, hsb⟩ := HSL.out
      rcases hsp with hsp | ⟨b, off, rfl, hb, h1⟩
      · omega
      · obtain ⟨a1, cap'', hc, ⟨_, hsn⟩, hcp⟩ := h1 j _ (atP_of (by omega))
        rcases hsn with hsn | ⟨b', off', rfl, hb', h2⟩
        · omega
        · have hbel := hrs.bel
          generalize hzs : atP zss j = zs at *
          have HC : Hid (∀ w', Below wr.heap.size wr w' → w'.cell? ⟨b, off + j, none⟩ = some (.slice (some ⟨b', off', none⟩) zs.length cap'') ∧ (∀ k, k < zs.length → w'.cell? ⟨b', off' + k, none⟩ = some (.int .i64 (atN zs k))) ∧ SlB w' w'.heap.size a' n' al) := fun w' h => by
            have hw := hbel.trans (h.mono hbel.size)
            exact ⟨(hw.cell (p := ⟨b, off + j, none⟩) hb).trans hc, fun k hk => (hw.cell (p := ⟨b', off' + k, none⟩) hb').trans (h2 k _ (atN_of hk)), (hsb.below hw).mono hw.size⟩
          have KR : Hid (RS w wr al zss u6 u7 g j ∧ atP zss j = zs) := ⟨hrs, hzs⟩
          have HN : Hid (NumsAt w b' off' zs ∧ b' < w.heap.size ∧ w.cell? ⟨b, off + j, none⟩ = some (.slice (some ⟨b', off', none⟩) zs.length cap'') ∧ b < w.heap.size) := ⟨h2, hb', hc, hb⟩
          have hrow' : Hid (∀ k, k < zs.length → 0 ≤ atN zs k ∧ atN zs k ≤ 7) := hrow
          clear hrs hc hsb h1 h2 hbel hrow hzs
          go_wp2
          generalize wr = W1 at *
          go_loopw [10] (fun v10 wr => ∃ (k : Nat) (v : Value), k ≤ zs.length ∧ v10 = .int .i64 k ∧ PB wr W1.heap.size W1.heap.size v (keepL al (zs.take k)) ∧ Below W1.heap.size W1 wr) (fun v10 _ => zs.length - (intOf v10).toNat)
          case atStart => exact ⟨0, _, Nat.zero_le _, rfl, by rw [List.take_zero]; exact PB.new W1 _ (Nat.le_refl _), (Below.refl _ _).alloc (Nat.le_refl _) _⟩
          case round =>
            obtain ⟨k, v, hk, rfl, hpb, hbw⟩ := hrel
            obtain ⟨c1, c2, sb⟩ := HC.out wr hbw
            have hjn : (j : Int) < (n : Int) := by omega
            by_cases hkl : k < zs.length
            · have ck := c2 k hkl
              obtain ⟨hz0, hz7⟩ := hrow'.out k hkl
              have hst := keepL_succ (al := al) hkl
              have hlv := specLives_any wr a' n' cap' (atN zs k) al hz0 sb
              have hkl' : (k : Int) < (zs.length : Int) := by omega
              have HZ0 : Hid (atN zs k = atN zs k) := rfl
              generalize hzk : atN zs k = z at *
              have HZ : Hid (atN zs k = z) := hzk
              clear c2 sb hzk HZ0
              cases hlz : livesB al z with
              | false =>
                rw [hlz] at hst hlv
                have HST : Hid (keepL al (zs.take (k + 1)) = keepL al (zs.take k)) := by unfold Hid; rw [hst]; rfl
                have HPB : Hid (PB wr W1.heap.size W1.heap.size v (keepL al (zs.take k)) ∧ Below W1.heap.size W1 wr) := ⟨hpb, hbw⟩
                clear hst hpb hbw
                go_wp2_with fail
                refine hlv.mono ?_
                clear hlv
                rintro e wr ⟨rfl, rfl⟩
                go_wp2
                exact ⟨⟨k + 1, v, by omega, by simp, by rw [HST.out]; exact HPB.out.1, HPB.out.2⟩, by simp [intOf]; omega⟩
              | true =>
                rw [hlz] at hst hlv
                have HKS : Hid (keepL al (zs.take (k + 1)) = keepL al (zs.take k) ++ [z]) := by unfold Hid; rw [hst]; rfl
                have hcell := hpb.cell
                have hfrz := hpb.frz
                have hPlt := hpb.lt
                have hkp : (keepL al (zs.take k)).length ≤ 1000 := by have := keepL_len al (zs.take k); rw [List.length_take] at this; omega
                obtain ⟨v', W', hr, p1, p2, hp2, hb2, hb3⟩ := hpb.step z hkp 28
                obtain ⟨q, cp, rfl⟩ : ∃ q cp, v' = .slice (some ⟨q, 0, none⟩) ((keepL al (zs.take k)).length + 1) cp := by
                  rcases hp2.on.form with ⟨_, e⟩ | ⟨q, cp, e, _⟩
                  · simp at e
                  · exact ⟨q, cp, by rw [e]; simp⟩
                generalize hkk : keepL al (zs.take k) = kk at *
                have HP2 : Hid (PB (W'.setCell ⟨W1.heap.size, 0, none⟩ (.slice (some ⟨q, 0, none⟩) (kk.length + 1) cp)) W1.heap.size W1.heap.size (.slice (some ⟨q, 0, none⟩) (kk.length + 1) cp) (kk ++ [z]) ∧ Below W1.heap.size W1 (W'.setCell ⟨W1.heap.size, 0, none⟩ (.slice (some ⟨q, 0, none⟩) (kk.length + 1) cp))) := ⟨hp2, hbw.trans hb2⟩
                have SS : ∀ w', Below W1.heap.size W1 w' → w'.cell? ⟨b, off + j, none⟩ = some (.slice (some ⟨b', off', none⟩) zs.length cap'') ∧ w'.cell? ⟨b', off' + k, none⟩ = some (.int .i64 z) := fun w' h => by
                  obtain ⟨x1, x2, _⟩ := HC.out w' h
                  exact ⟨x1, (x2 k hkl).trans (by rw [HZ.out])⟩
                have SD : Hid _ := SS wr.drew hbw.drew
                have SA : Hid _ := SS (wr.drew.alloc (.cells #[.int .i64 z] 2)) (hbw.drew.alloc hbw.size _)
                have SW : Hid _ := SS W' (hbw.trans hb3)
                have SF : Hid _ := SS _ (hbw.trans hb2)
                clear SS hst hpb hbw hp2 hb2 hb3 hkk hkp
                go_wp2_with fail
                refine hlv.mono ?_
                clear hlv
                rintro e wr ⟨rfl, rfl⟩
                go_wp2_with fail
                refine wp_region_held_drew (S := fun w' => w'.cell? ⟨b, off + j, none⟩ = some (.slice (some ⟨b', off', none⟩) zs.length cap'') ∧ w'.cell? ⟨b', off' + k, none⟩ = some (.int .i64 z)) (by kernel_rfl) SD.out (fun hHeld => ?_)
                refine wpAnyH_take (i := 0) (v := ?_) rfl (by kernel_rfl) (by kernel_rfl) (by kernel_rfl) (fun _ _ _ h => h) (Or.inl ⟨by rfl, ?_⟩) (by assumption) ?_
                rotate_left
                · (intro w hSw; (try dsimp only at hSw); go_simp; first | done | with_reducible rfl | (rw [if_pos (by omega)]))
                simp only [Act.put]
                refine wpAnyH_take (i := 2) (v := ?_) rfl (by kernel_rfl) (by kernel_rfl) (by kernel_rfl) (fun _ _ _ h => h) (Or.inl ⟨by rfl, ?_⟩) (by assumption) ?_
                rotate_left
                · (intro w hSw; (try dsimp only at hSw); go_simp; first | done | with_reducible rfl | (rw [if_pos (by omega)]))
                simp only [Act.put]
                refine wpAnyH_take (i := 3) (v := ?_) rfl (by kernel_rfl) (by kernel_rfl) (by kernel_rfl) (fun _ _ _ h => h) (Or.inl ⟨by rfl, ?_⟩) (by assumption) ?_
                rotate_left
                · (intro w hSw; (try dsimp only at hSw); go_simp; first | done | with_reducible rfl | (rw [if_pos (by omega)]))
                simp only [Act.put]
                refine wpAnyH_take (i := 4) (v := ?_) rfl (by kernel_rfl) (by kernel_rfl) (by kernel_rfl) (fun _ _ _ h => h) (Or.inl ⟨by rfl, ?_⟩) (by assumption) ?_
                rotate_left
                · (intro w hSw; (try dsimp only at hSw); go_simp; first | done | with_reducible rfl | (rw [if_pos (by omega)]))
                simp only [Act.put]
                refine wpAnyH_take (i := 5) (v := ?_) rfl (by kernel_rfl) (by kernel_rfl) (by kernel_rfl) (fun _ _ _ h => h) (Or.inl ⟨by rfl, ?_⟩) (by assumption) ?_
                rotate_left
                · (intro w hSw; (try dsimp only at hSw); go_simp; first | done | with_reducible rfl | (rw [if_pos (by omega)]))
                simp only [Act.put]
                refine wpAnyH_take (i := 6) (v := ?_) rfl (by kernel_rfl) (by kernel_rfl) (by kernel_rfl) (fun _ _ _ h => h) (Or.inl ⟨by rfl, ?_⟩) (by assumption) ?_
                rotate_left
                · (intro w hSw; (try dsimp only at hSw); go_simp; first | done | with_reducible rfl | (rw [if_pos (by omega)]))
                simp only [Act.put]
                refine wpAnyH_take (i := 7) (v := ?_) rfl (by kernel_rfl) (by kernel_rfl) (by kernel_rfl) (fun _ _ _ h => h) (Or.inl ⟨by rfl, ?_⟩) (by assumption) ?_
                rotate_left
                · (intro w hSw; (try dsimp only at hSw); go_simp; first | done | with_reducible rfl | (rw [if_pos (by omega)]))
                simp only [Act.put]
                refine wpAnyH_take (i := 8) (v := ?_) rfl (by kernel_rfl) (by kernel_rfl) (by kernel_rfl) (fun _ _ _ h => h) (Or.inl ⟨by rfl, ?_⟩) (by assumption) ?_
                rotate_left
                · (intro w hSw; (try dsimp only at hSw); go_simp; first | done | with_reducible rfl | (rw [if_pos (by omega)]))
                simp only [Act.put]
                refine wpAnyH_take (i := 9) (v := ?_) rfl (by kernel_rfl) (by kernel_rfl) (by kernel_rfl) (fun _ _ _ h => h) (Or.inl ⟨by rfl, ?_⟩) (by assumption) ?_
                rotate_left
                · (intro w hSw; (try dsimp only at hSw); go_simp; first | done | with_reducible rfl | (rw [if_pos (by omega)]))
                simp only [Act.put]
                refine wpAnyH_ready (rs := [1, 10]) (by kernel_rfl) (by simp) ?_
                refine AllReadyH.cons rfl (fun K hK => ?_) (AllReadyH.cons rfl (fun K hK => ?_) AllReadyH.nil)
                · go_simp
                  refine hK.out _ _ SD.out (fun hHeld => ?_)
                  clear hK K
                  refine wpAnyH_ready (rs := [10]) (by kernel_rfl) (by simp) ?_
                  refine AllReadyH.cons rfl (fun K hK => ?_) AllReadyH.nil
                  go_simp
                  refine hK.out _ _ SA.out (fun hHeld => ?_)
                  clear hK K
                  refine wpAnyH_ready (rs := [11]) (by kernel_rfl) (by simp) ?_
                  refine AllReadyH.cons rfl (fun K hK => ?_) AllReadyH.nil
                  refine step_known _ rfl (.tmp 52) (.tmp 61) 28 rfl _ _ _ _ (by first | rfl | simp [Act.eval, Act.put]) (by first | rfl | simp [Act.eval, Act.put]) hr ?_
                  refine hK.out _ _ SW.out (fun hHeld => ?_)
                  clear hK K
                  simp only [Act.put]
                  refine wpAnyH_take (i := 12) (v := ?_) rfl (by kernel_rfl) (by kernel_rfl) (by kernel_rfl) (fun _ _ _ h => h) (Or.inl ⟨by rfl, ?_⟩) (by assumption) ?_
                  rotate_left
                  · (intro w hSw; (try dsimp only at hSw); go_simp; first | done | with_reducible rfl | (rw [if_pos (by omega)]))
                  simp only [Act.put]
                  refine wpAnyH_ready (rs := [13]) (by kernel_rfl) (by simp) ?_
                  refine AllReadyH.cons rfl (fun K hK => ?_) AllReadyH.nil
                  go_simp
                  refine hK.out _ _ SF.out (fun hHeld => ?_)
                  clear hK K
                  refine wpAnyH_done (by kernel_rfl) ?_ _
                  go_wp2
                  exact ⟨⟨k + 1, _, by omega, by simp, by rw [HKS.out]; exact HP2.out.1, HP2.out.2⟩, by simp [intOf]; omega⟩
                · go_simp
                  refine hK.out _ _ SA.out (fun hHeld => ?_)
                  clear hK K
                  refine wpAnyH_ready (rs := [1]) (by kernel_rfl) (by simp) ?_
                  refine AllReadyH.cons rfl (fun K hK => ?_) AllReadyH.nil
                  go_simp
                  refine hK.out _ _ SA.out (fun hHeld => ?_)
                  clear hK K
                  refine wpAnyH_ready (rs := [11]) (by kernel_rfl) (by simp) ?_
                  refine AllReadyH.cons rfl (fun K hK => ?_) AllReadyH.nil
                  refine step_known _ rfl (.tmp 52) (.tmp 61) 28 rfl _ _ _ _ (by first | rfl | simp [Act.eval, Act.put]) (by first | rfl | simp [Act.eval, Act.put]) hr ?_
                  refine hK.out _ _ SW.out (fun hHeld => ?_)
                  clear hK K
                  simp only [Act.put]
                  refine wpAnyH_take (i := 12) (v := ?_) rfl (by kernel_rfl) (by kernel_rfl) (by kernel_rfl) (fun _ _ _ h => h) (Or.inl ⟨by rfl, ?_⟩) (by assumption) ?_
                  rotate_left
                  · (intro w hSw; (try dsimp only at hSw); go_simp; first | done | with_reducible rfl | (rw [if_pos (by omega)]))
                  simp only [Act.put]
                  refine wpAnyH_ready (rs := [13]) (by kernel_rfl) (by simp) ?_
                  refine AllReadyH.cons rfl (fun K hK => ?_) AllReadyH.nil
                  go_simp
                  refine hK.out _ _ SF.out (fun hHeld => ?_)
                  clear hK K
                  refine wpAnyH_done (by kernel_rfl) ?_ _
                  go_wp2
                  exact ⟨⟨k + 1, _, by omega, by simp, by rw [HKS.out]; exact HP2.out.1, HP2.out.2⟩, by simp [intOf]; omega⟩
            · have hke : k = zs.length := by omega
              subst hke
              rw [List.take_length] at hpb
              have hd : decide ((zs.length : Int) < (zs.length : Int)) = false := by simp
              clear c2 sb
              by_cases hke0 : keepL al zs = []
              · obtain ⟨x, cpx, rfl⟩ : ∃ x cpx, v = .slice x 0 cpx := by
                  rcases hpb.on.form with ⟨rfl, _⟩ | ⟨q, cp, rfl, _⟩
                  · exact ⟨none, 0, rfl⟩
                  · rw [hke0]; exact ⟨_, cp, rfl⟩
                have hcell := hpb.cell
                have hPlt := hpb.lt
                obtain ⟨vl', Wa, q, cp, Wc, vo', We, g', ra, rb, rc, hrs2, ba⟩ := KR.out.1.lose hbw (by omega) (by rw [KR.out.2]; exact hke0) (by rw [KR.out.2]; omega) b' off' cap'' HN.out.2.1 (by rw [KR.out.2]; exact HN.out.1)
                rw [KR.out.2] at rb rc
                have cA := (ba.cell (p := ⟨b, off + j, none⟩) HN.out.2.2.2).trans HN.out.2.2.1
                have hbA : b < Wa.heap.size := Nat.lt_of_lt_of_le HN.out.2.2.2 ba.size
                have HRS : Hid (RS w We al zss vl' vo' g' (j + 1)) := hrs2
                clear hrs2 ba hpb hbw hke0
                go_wp2_with (at_builtin; first | (refine append_known _ rfl (.tmp 68) (.tmp 70) 28 rfl _ _ _ _ rfl rfl ra ?_) | (refine append_known _ rfl (.tmp 73) (.tmp 78) 28 rfl _ _ _ _ rfl rfl rb ?_) | (refine append_known _ rfl (.tmp 72) (.tmp 81) 24 rfl _ _ _ _ rfl rfl rc ?_))
                exact ⟨⟨j + 1, g', by omega, by simp, HRS.out⟩, by simp [intOf]; omega⟩
              · have hk1 : 1 ≤ (keepL al zs).length := by
                  rcases Nat.eq_zero_or_pos (keepL al zs).length with h | h
                  · exact absurd (List.eq_nil_of_length_eq_zero h) hke0
                  · exact h
                have hk3 : (keepL al zs).length ≤ 3 := by have := keepL_len al zs; omega
                obtain ⟨q, cp, rfl⟩ : ∃ q cp, v = .slice (some ⟨q, 0, none⟩) (keepL al zs).length cp := by
                  rcases hpb.on.form with ⟨rfl, e⟩ | ⟨q, cp, rfl, _⟩
                  · exact absurd e hke0
                  · exact ⟨q, cp, rfl⟩
                have hcell := hpb.cell
                have hPlt := hpb.lt
                have HPB : Hid (PB wr W1.heap.size W1.heap.size (.slice (some ⟨q, 0, none⟩) (keepL al zs).length cp) (keepL al zs) ∧ Below W1.heap.size W1 wr) := ⟨hpb, hbw⟩
                have d0 : (((keepL al zs).length : Int) == 0) = false := by simp; omega
                have HKE : Hid (keepL al zs ≠ []) := hke0
                have HAL : Hid (al.length = n') := HSL.out.2.1
                clear hpb hbw hke0
                generalize hpk : keepL al zs = p at *
                have HPK : Hid (keepL al zs = p) := hpk
                clear hpk
                go_wp2
                go_loopw [11] (fun v11 wr => ∃ (mi : Nat) (v : Value), mi ≤ n' ∧ v11 = .int .i64 mi ∧ PB wr W1.heap.size W1.heap.size v (fillTo al p mi) ∧ Below W1.heap.size W1 wr) (fun v11 _ => n' - (intOf v11).toNat)
                case atStart => exact ⟨0, _, Nat.zero_le _, rfl, HPB.out.1, HPB.out.2⟩
                case round =>
                  clear HPB hcell hPlt c1
                  obtain ⟨mi, v, hmi, rfl, hpb, hbw⟩ := hrel
                  obtain ⟨fl1, fl3⟩ := fillTo_len al p hk3 mi
                  obtain ⟨_, _, sb⟩ := HC.out wr hbw
                  obtain ⟨q, cp, rfl⟩ : ∃ q cp, v = .slice (some ⟨q, 0, none⟩) (fillTo al p mi).length cp := by
                    rcases hpb.on.form with ⟨rfl, e⟩ | ⟨q, cp, rfl, _⟩
                    · rw [e] at fl1
                      have := Nat.le_trans hk1 fl1
                      simp at this
                    · exact ⟨q, cp, rfl⟩
                  have hcell := hpb.cell
                  have hfrz := hpb.frz
                  have hPlt := hpb.lt
                  by_cases hgo : mi < n' ∧ (fillTo al p mi).length < 3
                  · obtain ⟨hm1, hm2⟩ := hgo
                    have hm1' : (mi : Int) < (n' : Int) := by omega
                    have hm2' : ((fillTo al p mi).length : Int) < 3 := by omega
                    obtain ⟨_, hsb⟩ := sb
                    rcases hsb with hsb | ⟨ba, oa, rfl, hba, hbo⟩
                    · omega
                    · have ca := hbo mi _ (atB_of (by rw [HAL.out]; exact hm1))
                      have HF : Hid (fillTo al p (mi + 1) = if (fillTo al p mi).length < 3 ∧ atB al mi = true ∧ hasB (fillTo al p mi) (mi : Int) = false then fillTo al p mi ++ [(mi : Int)] else fillTo al p mi) := rfl
                      have HPB : Hid (PB wr W1.heap.size W1.heap.size (.slice (some ⟨q, 0, none⟩) (fillTo al p mi).length cp) (fillTo al p mi) ∧ Below W1.heap.size W1 wr) := ⟨hpb, hbw⟩
                      have hsn : SlN wr wr.heap.size (some ⟨q, 0, none⟩) (fillTo al p mi).length (fillTo al p mi) := by
                        rcases hpb.on.form with ⟨e, _⟩ | ⟨q', cp', e, _, h2, _, h4, _⟩
                        · cases e
                        · cases e; exact ⟨rfl, .inr ⟨_, 0, rfl, h2, h4⟩⟩
                      have hhas := l3Has_any wr (some ⟨q, 0, none⟩) (fillTo al p mi).length cp (mi : Int) (fillTo al p mi) (by unfold maxLen; omega) hsn
                      have hstep := hpb.stepP (mi : Int) (by omega) 28
                      clear hpb hbw hbo hsn
                      generalize fillTo al p mi = f at *
                      cases hal1 : atB al mi with
                      | false =>
                        rw [hal1] at ca HF
                        clear hstep hhas
                        go_wp2
                        exact ⟨⟨mi + 1, _, by omega, by simp, by rw [HF.out, if_neg (by simp)]; exact HPB.out.1, HPB.out.2⟩, by simp [intOf]; omega⟩
                      | true =>
                        rw [hal1] at ca HF
                        cases hhb : hasB f (mi : Int) with
                        | true =>
                          rw [hhb] at hhas HF
                          clear hstep
                          go_wp2_with fail
                          refine hhas.mono ?_
                          clear hhas
                          rintro e wr ⟨rfl, rfl⟩
                          go_wp2
                          exact ⟨⟨mi + 1, _, by omega, by simp, by rw [HF.out, if_neg (by simp)]; exact HPB.out.1, HPB.out.2⟩, by simp [intOf]; omega⟩
                        | false =>
                          rw [hhb] at hhas HF
                          obtain ⟨v', W', hr, p1, p2, hp2, hb2, _⟩ := hstep
                          obtain ⟨q2, cp2, rfl⟩ : ∃ q2 cp2, v' = .slice (some ⟨q2, 0, none⟩) (f.length + 1) cp2 := by
                            rcases hp2.on.form with ⟨_, e⟩ | ⟨q2, cp2, e, _⟩
                            · simp at e
                            · exact ⟨q2, cp2, by rw [e]; simp⟩
                          have HP2 : Hid (PB (W'.setCell ⟨W1.heap.size, 0, none⟩ (.slice (some ⟨q2, 0, none⟩) (f.length + 1) cp2)) W1.heap.size W1.heap.size (.slice (some ⟨q2, 0, none⟩) (f.length + 1) cp2) (f ++ [(mi : Int)]) ∧ Below W1.heap.size W1 (W'.setCell ⟨W1.heap.size, 0, none⟩ (.slice (some ⟨q2, 0, none⟩) (f.length + 1) cp2))) := ⟨hp2, HPB.out.2.trans hb2⟩
                          clear hp2 hb2 HPB
                          go_wp2_with fail
                          refine hhas.mono ?_
                          clear hhas
                          rintro e wr ⟨rfl, rfl⟩
                          go_wp2_with (at_builtin; refine append_known _ rfl (.tmp 107) (.tmp 109) 28 rfl _ _ _ _ rfl rfl hr ?_)
                          exact ⟨⟨mi + 1, _, by omega, by simp, by rw [HF.out, if_pos (by simp [hm2])]; exact HP2.out.1, HP2.out.2⟩, by simp [intOf]; omega⟩
                  · have hfin : fillTo al p mi = fillTo al p al.length := by
                      rw [HAL.out]
                      by_cases hm1 : mi < n'
                      · have h3 : 3 ≤ (fillTo al p mi).length := by omega
                        have := fillTo_full h3 (n' - mi)
                        rw [← this]; congr 1; omega
                      · rw [show mi = n' by omega]
                    obtain ⟨h2, h4, h5, hcp1, hq1⟩ : q < wr.heap.size ∧ NumsAt wr q 0 (fillTo al p mi) ∧ Room wr q (fillTo al p mi).length ∧ (fillTo al p mi).length ≤ cp ∧ W1.heap.size ≤ q := by
                      rcases hpb.on.form with ⟨e, _⟩ | ⟨q', cp', e, h1, h2, h3, h4, h5⟩
                      · cases e
                      · cases e; exact ⟨h2, h4, h5, h3, h1⟩
                    have bB : Below wr.heap.size wr (wr.alloc (.cells #[.slice (some ⟨q, 0, none⟩) (fillTo al p mi).length cp] 40)) := (Below.refl _ _).alloc (Nat.le_refl _) _
                    have hrow : rowR al (atP zss j) = fillTo al p mi := by rw [KR.out.2, rowR, HPK.out, if_neg HKE.out, hfin]
                    obtain ⟨v', W', g', hr, hrs2⟩ := KR.out.1.keep (W := wr.alloc (.cells #[.slice (some ⟨q, 0, none⟩) (fillTo al p mi).length cp] 40)) (hbw.trans (bB.mono hbw.size)) (by omega) (by rw [KR.out.2, HPK.out]; exact HKE.out) wr.heap.size q cp (by rw [hrow]; go_simp) (by rw [hrow]; exact hcp1) hq1 (Nat.lt_of_lt_of_le h2 bB.size) (by rw [hrow]; exact h4.below bB h2) (by rw [hrow]; exact h5.below bB h2)
                    have HRS : Hid (RS w W' al zss u6 v' g' (j + 1)) := hrs2
                    clear hrs2 hrow bB h4 h5 hpb hbw hfin sb
                    generalize (fillTo al p mi).length = fl at *
                    by_cases hm1 : mi < n'
                    · have hm1' : (mi : Int) < (n' : Int) := by omega
                      have d3 : decide ((fl : Int) < 3) = false := by simp; omega
                      go_wp2_with (at_builtin; refine append_known _ rfl (.tmp 112) (.tmp 114) 24 rfl _ _ _ _ rfl rfl hr ?_)
                      exact ⟨⟨j + 1, g', by omega, by simp, HRS.out⟩, by simp [intOf]; omega⟩
                    · have d3 : decide ((mi : Int) < (n' : Int)) = false := by simp; omega
                      go_wp2_with (at_builtin; refine append_known _ rfl (.tmp 112) (.tmp 114) 24 rfl _ _ _ _ rfl rfl hr ?_)
                      exact ⟨⟨j + 1, g', by omega, by simp, HRS.out⟩, by simp [intOf]; omega⟩
    · have hjn : j = n := by omega
      subst hjn
      have hd : decide ((j : Int) < (j : Int)) = false := by simp
      obtain ⟨b, cp, hvo, hb1, hb2, _, hown⟩ := hrs.out.own hrs.nvo
      rw [remapN_len] at hown hvo
      obtain ⟨q, cq, hvl⟩ : ∃ q cq, u6 = .slice (some ⟨q, 0, none⟩) (lostN al zss j).length cq := by
        rcases hrs.lost.form with ⟨e, _⟩ | ⟨q, cq, e, _⟩
        · exact absurd e hrs.nvl
        · exact ⟨q, cq, e⟩
      subst hvo hvl
      have HK : Hid (OwnP wr w.heap.size b j (remapN al zss j) g ∧ b < wr.heap.size ∧ ON wr w.heap.size (.slice (some ⟨q, 0, none⟩) (lostN al zss j).length cq) (lostN al zss j) ∧ q ≠ b ∧ (∀ i, i < j → g i ≠ q) ∧ Below w.heap.size w wr) :=
        ⟨hown, hb2, hrs.lost, fun e => hrs.ap1 (by rw [e]; rfl), fun i hi e => hrs.ap2 i hi (by rw [e]; rfl), hrs.bel⟩
      clear hown hrs HP HSL
      go_wp2
      refine bodyPost_ret (v := .tuple #[.slice (some ⟨b, 0, none⟩) j cp, .slice (some ⟨q, 0, none⟩) (lostN al zss j).length cq]) (by simp [results, Try.results12, go_sem]) rfl ?_
      exact ⟨b, cp, g, q, cq, rfl, HK.out.1, HK.out.2.1, HK.out.2.2.1, HK.out.2.2.2.1, HK.out.2.2.2.2.1, HK.out.2.2.2.2.2⟩
end Go.Proofs.Ytgohihcpmjfhdaa
